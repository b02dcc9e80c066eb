import Derived.Test.YtkiindkoiomieaaGreatDoorJ14
import Derived.Test.YtkiindkoiomieaaGreatDoorJ04
import Derived.Test.YtkiindkoiomieaaGreatDoorJ08
import Derived.Test.YtkiindkoiomieaaGreatDoorJ02
import Derived.Test.YtkiindkoiomieaaGreatDoorJ09
import Derived.Test.YtkiindkoiomieaaGreatDoorJ12
import Derived.Test.YtkiindkoiomieaaGreatDoorRows
import Derived.ProofKit
import Derived.OpenShut
import Derived.LaidMore
import Derived.Lay
import Derived.SevenTiedAt
import Derived.Stop.Joined
section
/-
  P9: the walks of unframed and Decompress.
-/
namespace Go.Proofs.YtkiindkoiomieaaGreatDoor
open Go.RowKit

/-- The rest of the text gives that. -/
def Go1 (g all : Nat) (l acc : List UInt8) (res : List UInt8 × Nat) : Prop := Co.Join (Co.framesG g all l).1 (Co.framesG g all l).2 acc res

theorem go_end {g all : Nat} {l acc : List UInt8} {res : List UInt8 × Nat} {c : Nat} (h : Co.framesG (g + 1) all l = ([], c)) (hr : res = if c = 0 then (acc, 0) else ([], c)) : Go1 (g + 1) all l acc res := by
  unfold Go1
  rw [h]
  exact hr

theorem frames_short {g all : Nat} {l : List UInt8} (h : l.length < 2) : Co.framesG (g + 1) all l = ([], 6) := by
  rw [Co.framesG, if_pos h]
theorem frames_zero {g all : Nat} {l : List UInt8} (h : ¬ l.length < 2) (h0 : Co.leN (l.take 2) = 0) : Co.framesG (g + 1) all l = if (l.drop 2).length = 0 then ([], 0) else ([], 8) := by
  rw [Co.framesG, if_neg h, if_pos h0]
theorem frames_big {g all : Nat} {l : List UInt8} (h : ¬ l.length < 2) (h0 : ¬ Co.leN (l.take 2) = 0) (hb : 200 < Co.leN (l.take 2) ∨ 300 < all + Co.leN (l.take 2)) : Co.framesG (g + 1) all l = ([], 4) := by
  rw [Co.framesG, if_neg h, if_neg h0, if_pos hb]
theorem frames_block_none {g all : Nat} {l acc : List UInt8} (h : ¬ l.length < 2) (h0 : ¬ Co.leN (l.take 2) = 0) (hb : ¬ (200 < Co.leN (l.take 2) ∨ 300 < all + Co.leN (l.take 2))) (hB : BlockOf (l.drop 2) (Co.leN (l.take 2)) none) : Go1 (g + 1) all l acc ([], 6) := by
  unfold BlockOf at hB
  by_cases hc : (l.drop 2).length < 6 ∨ (l.drop 2).length < 6 + Co.leN (((l.drop 2).drop 4).take 2)
  · refine go_end (c := 6) ?_ rfl
    rw [Co.framesG, if_neg h, if_neg h0, if_neg hb]
    rcases hc with hc | hc
    · rw [if_pos hc]
    · by_cases h6 : (l.drop 2).length < 6
      · rw [if_pos h6]
      · rw [if_neg h6, if_pos hc]
  · rw [if_neg hc] at hB
    obtain ⟨u, _, hu⟩ := hB
    cases u with
    | none => cases hu
    | some d =>
      simp only at hu
      split at hu <;> cases hu
theorem frames_cons {g all : Nat} {l : List UInt8} (h : ¬ l.length < 2) (h0 : ¬ Co.leN (l.take 2) = 0) (hb : ¬ (200 < Co.leN (l.take 2) ∨ 300 < all + Co.leN (l.take 2))) (hc : ¬ ((l.drop 2).length < 6 ∨ (l.drop 2).length < 6 + Co.leN (((l.drop 2).drop 4).take 2))) :
    Co.framesG (g + 1) all l = (⟨Co.leN (l.take 2), Co.leN ((l.drop 2).take 4), ((l.drop 2).drop 6).take (Co.leN (((l.drop 2).drop 4).take 2))⟩ :: (Co.framesG g (all + Co.leN (l.take 2)) ((l.drop 2).drop (6 + Co.leN (((l.drop 2).drop 4).take 2)))).1, (Co.framesG g (all + Co.leN (l.take 2)) ((l.drop 2).drop (6 + Co.leN (((l.drop 2).drop 4).take 2)))).2) := by
  rw [Co.framesG, if_neg h, if_neg h0, if_neg hb, if_neg (fun e => hc (.inl e)), if_neg (fun e => hc (.inr e))]

/-- A block that is wrong. -/
theorem frames_wrong {g all : Nat} {l acc d : List UInt8} {c : Int} (h : ¬ l.length < 2) (h0 : ¬ Co.leN (l.take 2) = 0) (hb : ¬ (200 < Co.leN (l.take 2) ∨ 300 < all + Co.leN (l.take 2))) (hB : BlockOf (l.drop 2) (Co.leN (l.take 2)) (some (d, c))) (hcn : c ≠ 0) : ∃ m : Nat, c = (m : Int) ∧ Go1 (g + 1) all l acc ([], m) := by
  unfold BlockOf at hB
  by_cases hc : (l.drop 2).length < 6 ∨ (l.drop 2).length < 6 + Co.leN (((l.drop 2).drop 4).take 2)
  · rw [if_pos hc] at hB
    cases hB
  · rw [if_neg hc] at hB
    obtain ⟨u, hu, hm⟩ := hB
    unfold Go1
    rw [frames_cons h h0 hb hc]
    cases u with
    | none =>
      cases hm
      exact ⟨4, rfl, none, hu, rfl⟩
    | some d' =>
      simp only at hm
      by_cases hcrc : Co.crcF d' = Co.leN ((l.drop 2).take 4)
      · rw [if_pos hcrc] at hm
        cases hm
        exact absurd rfl hcn
      · rw [if_neg hcrc] at hm
        cases hm
        exact ⟨7, rfl, some d', hu, by simp only; rw [if_neg hcrc]; trivial⟩
/-- A block that is right. -/
theorem frames_right {g all : Nat} {l acc d : List UInt8} {res : List UInt8 × Nat} (h : ¬ l.length < 2) (h0 : ¬ Co.leN (l.take 2) = 0) (hb : ¬ (200 < Co.leN (l.take 2) ∨ 300 < all + Co.leN (l.take 2))) (hB : BlockOf (l.drop 2) (Co.leN (l.take 2)) (some (d, 0))) (hr : Go1 g (all + Co.leN (l.take 2)) ((l.drop 2).drop (6 + Co.leN (((l.drop 2).drop 4).take 2))) (acc ++ d) res) : Go1 (g + 1) all l acc res ∧ d.length = Co.leN (l.take 2) := by
  unfold BlockOf at hB
  by_cases hc : (l.drop 2).length < 6 ∨ (l.drop 2).length < 6 + Co.leN (((l.drop 2).drop 4).take 2)
  · rw [if_pos hc] at hB
    cases hB
  · rw [if_neg hc] at hB
    obtain ⟨u, hu, hm⟩ := hB
    cases u with
    | none => cases hm
    | some d' =>
      simp only at hm
      by_cases hcrc : Co.crcF d' = Co.leN ((l.drop 2).take 4)
      · rw [if_pos hcrc] at hm
        cases hm
        refine ⟨?_, hu.size⟩
        unfold Go1
        rw [frames_cons h h0 hb hc]
        exact ⟨some d, hu, by simp only; rw [if_pos hcrc]; exact hr⟩
      · rw [if_neg hcrc] at hm
        cases hm
theorem block_size {s d : List UInt8} {n : Nat} (hB : BlockOf s n (some (d, 0))) : d.length = n := by
  unfold BlockOf at hB
  split at hB
  · cases hB
  · obtain ⟨u, hu, hm⟩ := hB
    cases u with
    | none => cases hm
    | some d' =>
      simp only at hm
      split at hm
      · cases hm
        exact hu.size
      · cases hm

set_option maxHeartbeats 4000000 in
set_option maxRecDepth 100000 in
theorem unframed_any (T : ByteArray) (w : World) (hT : T.size ≤ 4000) :
    Calls Tryz.prog 48 #[.string T] w fun e w' => Below w.heap.size w w' ∧ ∃ res, Go1 501 0 T.data.toList [] res ∧ ((e = .panicked [gaveUp] ∧ res = ([], 6)) ∨ e = .returned (.tuple #[.string ⟨res.1.toArray⟩, .int .i64 (res.2 : Int)])) := by
  go_enter Tryz.func48, Tryz.ntmps48
  go_wp2_with fail
  go_at_call 80
  refine (taker_any T w).mono ?_
  rintro e w1 ⟨rfl, hw1⟩
  obtain ⟨q0, q1, q2, qs⟩ := two_new w (.cells #[.string T] 9) (.cells #[.int .i64 0] 3)
  have kb1 : Below w.heap.size w w1 := by rw [hw1]; exact ((Below.refl _ w).alloc (Nat.le_refl _) _).alloc (by simp) _
  rw [← hw1] at q0 q1 qs
  have ht1 : TkAt w.heap.size (w.heap.size + 1) T 0 w1 := ⟨q0, q1, by omega⟩
  have y1 : w.heap.size + 2 ≤ w1.heap.size := by rw [qs]; exact Nat.le_refl _
  have HT1 := hide ht1
  clear hw1 q0 q1 q2 qs ht1
  go_wp2_with fail
  go_loopg [] 501 (fun g wr => ∃ (p : Nat) (acc : List UInt8), acc.length ≤ 300 ∧ 301 ≤ acc.length + g ∧ TkAt w.heap.size (w.heap.size + 1) T p wr ∧ Lib.IsBuilder 83 5 w1.heap.size w1.heap.size (Lib.byteCells acc) wr ∧ w1.heap.size ≤ wr.heap.size ∧ Below w.heap.size w wr ∧ Hid (∀ res, Go1 g acc.length (T.data.toList.drop p) acc res → Go1 501 0 T.data.toList [] res))
  case atStart => exact ⟨0, [], by simp, by simp, HT1.out.keep ((Below.refl _ _).alloc (Nat.le_refl _) _), Lib.fresh_isBuilder 83 5 w1, by simp, kb1.alloc kb1.size _, hide (fun res h => h)⟩
  case round =>
    clear HT1 kb1
    obtain ⟨p, acc, hal, hag, ht, hB, hwr, hbx, HG⟩ := hrel
    obtain ⟨g1, rfl⟩ : ∃ g1, gk = g1 + 1 := ⟨gk - 1, by omega⟩
    have hle := ht.le
    obtain ⟨l, hl⟩ : ∃ l, l = T.data.toList.drop p := ⟨_, rfl⟩
    have hll : l.length = T.size - p := by rw [hl, List.length_drop, ← Lib.size_eq]
    rw [← hl] at HG
    by_cases h2 : p + 2 ≤ T.size
    · have hn2 : ¬ l.length < 2 := by omega
      have C1 := hide (take_fit w.heap.size (w.heap.size + 1) T p 2 wr hT ht h2)
      rw [← hl] at C1
      obtain ⟨A, hA⟩ : ∃ A : ByteArray, A = ⟨(l.take 2).toArray⟩ := ⟨_, rfl⟩
      have hAs : A.size ≤ 4 := by rw [Lib.size_eq, hA]; show (l.take 2).length ≤ 4; rw [List.length_take]; omega
      have CN1 := hide (fun W => numberOf_any A W hAs)
      have eA : A.data.toList = l.take 2 := by rw [hA]
      rw [eA] at CN1
      rw [← hA] at C1
      obtain ⟨n, hn⟩ : ∃ n, n = Co.leN (l.take 2) := ⟨_, rfl⟩
      have hn16 : n < 65536 := by rw [hn]; exact leN_two _ (by rw [List.length_take]; omega)
      rw [← hn] at CN1
      have hwn : IntKind.i64.wrap (n : Int) = (n : Int) := IntWalk.i64_in _ (by omega)
      have hd2 : T.data.toList.drop (p + 2) = l.drop 2 := by rw [hl, List.drop_drop]
      have HNN := hide hn
      have HL := hide hl
      clear hA eA hn hl ht
      go_wp2_with fail
      go_at_call 109
      refine C1.out.mono ?_
      rintro e w2 ⟨rfl, ht2, ho2⟩
      have hB2 := builder_frm hB ho2.frm (fun k hk => by simp at hk; omega)
      have hbx2 : Below w.heap.size w w2 := hbx.grown ho2.1 hbx.size (fun j hj => by cases hj; omega)
      have hwr2 : w1.heap.size ≤ w2.heap.size := by rw [ho2.2]; exact hwr
      clear hB C1 ho2 hbx
      go_wp2_with fail
      go_at_call 81
      refine (CN1.out _).mono ?_
      rintro e w' ⟨rfl, hw⟩
      rw [hw]
      clear hw w'
      by_cases h0 : n = 0
      · have h0I : ((n : Int) == 0) = true := by rw [h0]; rfl
        have CA := hide (atEnd_any _ _ T (p + 2) w2 ht2)
        have hz : Co.leN (l.take 2) = 0 := by rw [← HNN.out]; exact h0
        by_cases hend : p + 2 = T.size
        · have hE : (((p + 2 : Nat) : Int) == (T.size : Int)) = true := by rw [beq_iff_eq]; omega
          rw [hE] at CA
          have hgo : Go1 501 0 T.data.toList [] (acc, 0) := HG.out _ (go_end (c := 0) (by rw [frames_zero hn2 hz, if_pos (by rw [List.length_drop]; omega)]) rfl)
          have HGO := hide hgo
          have CS := hide (Tryz.Builder_String_any _ _ _ _ hB2 hwr2)
          clear hgo hend h0 hz hB2 ht2
          go_wp2_with (first
            | (go_at_call 110; refine CA.out.mono ?_; rintro e w' ⟨rfl, hw⟩; rw [hw]; clear hw w')
            | (go_at_call 64; refine CS.out.mono ?_; rintro e w3 ⟨rfl, hb3⟩))
          go_ret2
          exact ⟨hbx2.trans (hb3.mono (by omega)), (acc, 0), HGO.out, .inr rfl⟩
        · have hE : (((p + 2 : Nat) : Int) == (T.size : Int)) = false := by rw [beq_eq_false_iff_ne]; omega
          rw [hE] at CA
          have hgo : Go1 501 0 T.data.toList [] ([], 8) := HG.out _ (go_end (c := 8) (by rw [frames_zero hn2 hz, if_neg (by rw [List.length_drop]; omega)]) rfl)
          have HGO := hide hgo
          clear hgo hend h0 hz hB2 ht2
          go_wp2_with (go_at_call 110; refine CA.out.mono ?_; rintro e w' ⟨rfl, hw⟩; rw [hw]; clear hw w')
          go_ret2
          exact ⟨hbx2, ([], 8), HGO.out, .inr rfl⟩
      · have h0I : ((n : Int) == 0) = false := by rw [beq_eq_false_iff_ne]; omega
        have hz : ¬ Co.leN (l.take 2) = 0 := by rw [← HNN.out]; exact h0
        have hlenc : ((Lib.byteCells acc).length : Int) = (acc.length : Int) := by rw [Lib.byteCells_length]
        have cL := Tryz.Builder_Len w1.heap.size w1.heap.size (Lib.byteCells acc) w2 hB2
        rw [hlenc] at cL
        have CL := hide cL
        clear cL hlenc
        by_cases hbig : 200 < n ∨ 300 < acc.length + n
        · have hgo : Go1 501 0 T.data.toList [] ([], 4) := HG.out _ (go_end (c := 4) (frames_big hn2 hz (by rw [← HNN.out]; exact hbig)) rfl)
          have HGO := hide hgo
          clear hgo hz hB2 ht2
          by_cases h200 : 200 < n
          · go_wp2
            go_ret2
            exact ⟨hbx2, [], 4, HGO.out, .inr rfl⟩
          · have h300 : 300 < acc.length + n := by omega
            have hd3 : decide ((300 : Int) < (acc.length : Int) + (n : Int)) = true := decide_eq_true (by omega)
            go_wp2_with (go_at_call 82; refine CL.out.mono ?_; rintro e w' ⟨rfl, hw⟩; rw [hw]; clear hw w')
            go_ret2
            exact ⟨hbx2, ([], 4), HGO.out, .inr rfl⟩
        · have h200 : n ≤ 200 := by omega
          have h300 : acc.length + n ≤ 300 := by omega
          have hd3 : decide ((300 : Int) < (acc.length : Int) + (n : Int)) = false := decide_eq_false (by omega)
          have hnb : ¬ (200 < Co.leN (l.take 2) ∨ 300 < acc.length + Co.leN (l.take 2)) := by rw [← HNN.out]; exact hbig
          have CB := hide (nextBlock_any w.heap.size (w.heap.size + 1) T (p + 2) n w2 hT h200 ht2)
          rw [hd2] at CB
          clear ht2 hbig
          go_wp2_with (go_at_call 82; refine CL.out.mono ?_; rintro e w' ⟨rfl, hw⟩; rw [hw]; clear hw w')
          go_at_call 83
          refine CB.out.mono ?_
          rintro e w3 ⟨hf3, ⟨hBn, rfl⟩ | ⟨d, c, hBs, rfl, htk⟩⟩
          · have hgo : Go1 501 0 T.data.toList [] ([], 6) := HG.out _ (frames_block_none hn2 hz hnb (by rw [← HNN.out]; exact hBn))
            have HGO := hide hgo
            have hbx3 : Below w.heap.size w w3 := hbx2.trans (hf3.below hbx2.size (fun k hk => by simp at hk; omega))
            clear hgo hBn
            go_wp2
            exact ⟨rfl, hbx3, ([], 6), HGO.out, .inl ⟨rfl, rfl⟩⟩
          · have hbx3 : Below w.heap.size w w3 := hbx2.trans (hf3.below hbx2.size (fun k hk => by simp at hk; omega))
            have hB3 := builder_frm hB2 hf3 (fun k hk => by simp at hk; omega)
            have hwr3 : w1.heap.size ≤ w3.heap.size := Nat.le_trans hwr2 hf3.size
            obtain ⟨D, hD⟩ : ∃ D : ByteArray, D = ⟨d.toArray⟩ := ⟨_, rfl⟩
            have hDd : D.data.toList = d := by rw [hD]
            rw [← hD]
            have HDD := hide hDd
            clear CB CL hf3 hB2 hbx2 hwr2 hD hDd
            by_cases hc : c = 0
            · subst hc
              have hdl := block_size hBs
              have htk3 := htk rfl
              have hDs : D.size = n := by rw [Lib.size_eq, HDD.out, hdl]
              have CW := hide (writeStr_any w1.heap.size w1.heap.size acc D w3 hB3 (by omega) hwr3)
              have HTK := hide htk3
              have HBS := hide hBs
              have HDL := hide hdl
              clear htk htk3 hBs hB3 hDs hdl
              go_wp2_with (go_at_call 84; refine CW.out.mono ?_; rintro e w4 ⟨rfl, hB4, hb4⟩)
              go_roundg g1
              case measure => omega
              case rel =>
                have hdl := HDL.out
                rw [HDD.out] at hB4
                refine ⟨p + 2 + (6 + Co.leN (((l.drop 2).drop 4).take 2)), acc ++ d, by rw [List.length_append]; omega, by rw [List.length_append]; omega, ?_, hB4, Nat.le_trans hwr3 hb4.size, hbx3.trans (hb4.mono (by omega)), ?_⟩
                · exact ⟨by rw [hb4.block _ (by omega)]; exact HTK.out.hT, by rw [hb4.block _ (by omega)]; exact HTK.out.hP, HTK.out.le⟩
                · refine hide (fun res hres => HG.out res ?_)
                  refine (frames_right hn2 hz hnb (by rw [← HNN.out]; exact HBS.out) ?_).1
                  rw [← HNN.out, ← hdl, ← List.length_append]
                  rw [← List.drop_drop, hd2] at hres
                  exact hres
            · have hcI : (c != 0) = true := by rw [bne_iff_ne]; exact hc
              obtain ⟨m, hm, hgo1⟩ := frames_wrong (g := g1) (acc := acc) hn2 hz hnb (by rw [← HNN.out]; exact hBs) hc
              have HGO := hide (HG.out _ hgo1)
              subst hm
              clear hgo1 hBs htk hB3 hc
              go_wp2
              go_ret2
              exact ⟨hbx3, ([], m), HGO.out, .inr rfl⟩
    · have hgo : Go1 501 0 T.data.toList [] ([], 6) := HG.out _ (go_end (c := 6) (frames_short (by omega)) rfl)
      have HGO := hide hgo
      have C1 := hide (take_short w.heap.size (w.heap.size + 1) T p 2 wr hT ht (by omega))
      clear hgo hl ht
      go_wp2_with fail
      go_at_call 109
      refine C1.out.mono ?_
      rintro e w2 ⟨rfl, hw⟩
      rw [hw]
      go_wp2
      exact ⟨rfl, hbx, ([], 6), HGO.out, .inl ⟨rfl, rfl⟩⟩
end Go.Proofs.YtkiindkoiomieaaGreatDoor
end

section
/-
  P9: the walk of Decompress.
-/
namespace Go.Proofs.YtkiindkoiomieaaGreatDoor
open Go.RowKit

set_option maxRecDepth 100000 in
theorem catch_broken (a b : Addr) (x : ByteArray) (y : Int) (u : TypeId) (pv : Value) (older : List PanicEntry) (w : World) (ha : w.cell? a = some (.string x)) (hb : w.cell? b = some (.int .i64 y)) (fa : w.frozen? a = false) (fb : w.frozen? b = false) (hne : a.block ≠ b.block) :
    CallsD Tryz.prog 47 #[.pointer (some a), .pointer (some b)] (.panicking ({ v := .iface u pv, recovered := false } :: older)) w fun e u' w' =>
      e = .returned (.tuple #[]) ∧ u' = .panicking ({ v := .iface u pv, recovered := true } :: older) ∧ w' = (w.setCell a (.string ⟨#[]⟩)).setCell b (.int .i64 6) := by
  have hb' : (w.setCell a (.string ⟨#[]⟩)).cell? b = some (.int .i64 y) := by
    rw [World.cell?_of_block (heap_setCell_other _ _ _ _ (fun e => hne e.symm))]
    exact hb
  have fb' : (w.setCell a (.string ⟨#[]⟩)).frozen? b = false := by
    rw [World.frozen?_of_block (heap_setCell_other _ _ _ _ (fun e => hne e.symm))]
    exact fb
  refine callsD_of_wpS Tryz.func47 rfl fun c₀ cs hu => ?_
  apply wpS_seq
  apply wpS_region
  simp [wpOpsS, go_sem, recoverD, hu, Tryz.ntmps47, Exit.thenS]
  refine wpS_cond (t := true) (by simp [Act.eval, Array.replicate]) ?_
  simp only [if_true]
  apply wpS_region
  simp [wpOpsS, go_sem, ha, hb', fa, fb', bodyPostS, results, Tryz.results47]

theorem catch_whole (a b : Addr) (w : World) :
    CallsD Tryz.prog 47 #[.pointer (some a), .pointer (some b)] .returning w fun e u' w' => e = .returned (.tuple #[]) ∧ u' = .returning ∧ w' = w := by
  refine callsD_of_wpS Tryz.func47 rfl fun c₀ cs hu => ?_
  apply wpS_seq
  apply wpS_region
  simp [wpOpsS, go_sem, recoverD, hu, Tryz.ntmps47, Exit.thenS]
  refine wpS_cond (t := false) (by simp [Act.eval, Array.replicate]) ?_
  simp only [Bool.false_eq_true, if_false]
  refine wpS_of_wp (wp_skip ?_)
  cases c₀
  simp_all [bodyPostS, results, Tryz.results47]

/-- What a text is by its frames. -/
def OpenOf (l : List UInt8) (res : List UInt8 × Nat) : Prop := Co.Join (Co.framesF l).1 (Co.framesF l).2 [] res

theorem open_long {l : List UInt8} (h : 4000 < l.length) : OpenOf l ([], 1) := by
  unfold OpenOf Co.framesF
  rw [if_pos h]
  rfl
theorem open_head {l : List UInt8} (h : ¬ 4000 < l.length) (h2 : ¬ l.take 4 = Co.headL) : OpenOf l ([], 5) := by
  unfold OpenOf Co.framesF
  rw [if_neg h, if_neg h2]
  rfl
theorem open_body {l : List UInt8} {res : List UInt8 × Nat} (h : ¬ 4000 < l.length) (h2 : l.take 4 = Co.headL) (hg : Go1 501 0 (l.drop 4) [] res) : OpenOf l res := by
  unfold OpenOf Co.framesF
  rw [if_neg h, if_pos h2]
  exact hg

theorem prefix_iff (l : List UInt8) : Lib.hasPrefix l Co.headL = decide (l.take 4 = Co.headL) := by
  unfold Lib.hasPrefix
  rw [Bool.eq_iff_iff, List.isPrefixOf_iff_prefix, decide_eq_true_iff, List.prefix_iff_eq_take]
  exact ⟨fun e => e.symm, fun e => e.symm⟩

set_option maxHeartbeats 2000000 in
set_option maxRecDepth 100000 in
theorem decompress_any (T : ByteArray) (w : World) (hm : T.size ≤ 9223372036854775807) :
    Calls Tryz.prog 24 #[.string T] w fun e w' => Below w.heap.size w w' ∧ ∃ res : List UInt8 × Nat, OpenOf T.data.toList res ∧ e = .returned (.tuple #[.string ⟨res.1.toArray⟩, .int .i64 (res.2 : Int)]) := by
  have hmf : ∀ (fn : Fn) (first cap : Array Value) (w : World), (Instr.makeFunc fn first cap).run Tryz.prog w = .ok (.func fn first cap) w := fun _ _ _ _ => rfl
  by_cases hl : 4000 < T.size
  · have hdec : decide ((4000 : Int) < (T.size : Int)) = true := decide_eq_true (by omega)
    have HO := hide (open_long (l := T.data.toList) (by rw [← Lib.size_eq]; exact hl))
    go_enter_defers Tryz.func24, Tryz.ntmps24
    go_wp2
    simp [bodyPostD, Leaves, results, Tryz.results24, go_sem]
    exact ⟨((Below.refl _ w).alloc (Nat.le_refl _) _).alloc (by simp) _, [], 1, HO.out, rfl, rfl⟩
  · have hdec : decide ((4000 : Int) < (T.size : Int)) = false := decide_eq_false (by omega)
    have hnl : ¬ 4000 < T.data.toList.length := by rw [← Lib.size_eq]; exact hl
    have CP := hide (fun W => Tryz.strings_CutPrefix T ⟨#[84, 87, 78, 49]⟩ W)
    have eP : Lib.hasPrefix T.data.toList (⟨#[84, 87, 78, 49]⟩ : ByteArray).data.toList = decide (T.data.toList.take 4 = Co.headL) := prefix_iff T.data.toList
    rw [eP] at CP
    clear eP
    by_cases hh : T.data.toList.take 4 = Co.headL
    · have hd : decide (T.data.toList.take 4 = Co.headL) = true := decide_eq_true hh
      rw [hd] at CP
      have htr : Lib.trimPrefix T.data.toList (⟨#[84, 87, 78, 49]⟩ : ByteArray).data.toList = T.data.toList.drop 4 := by
        unfold Lib.trimPrefix
        rw [show Lib.hasPrefix T.data.toList (⟨#[84, 87, 78, 49]⟩ : ByteArray).data.toList = true from (prefix_iff T.data.toList).trans hd, if_pos rfl]
        rfl
      rw [htr] at CP
      obtain ⟨R, hR⟩ : ∃ R : ByteArray, R = ⟨(T.data.toList.drop 4).toArray⟩ := ⟨_, rfl⟩
      have hRd : R.data.toList = T.data.toList.drop 4 := by rw [hR]
      have hRs : R.size ≤ 4000 := by rw [Lib.size_eq, hRd, List.length_drop, ← Lib.size_eq]; omega
      rw [← hR] at CP
      have CU := hide (fun W => unframed_any R W hRs)
      rw [hRd] at CU
      have HO := hide (fun res (hg : Go1 501 0 (T.data.toList.drop 4) [] res) => open_body hnl hh hg)
      clear hR hRd htr hd hh hnl
      go_enter_defers Tryz.func24, Tryz.ntmps24
      go_wp2_with (go_at_call 46; refine (CP.out _).mono ?_; rintro e w' ⟨rfl, hw⟩; rw [hw]; clear hw w')
      go_at_call 48
      refine (CU.out _).mono ?_
      obtain ⟨q0, q1, _, qs⟩ := two_new w (.cells #[.string ⟨#[]⟩] 9) (.cells #[.int .i64 0] 27)
      rintro e w1 ⟨hb1, res, hres, hcase⟩
      have k1 : Below w.heap.size w w1 := (((Below.refl _ w).alloc (Nat.le_refl _) _).alloc (by simp) _).trans (hb1.mono (by rw [qs]; omega))
      rw [qs] at hb1
      have g0 : w1.heap[w.heap.size]? = _ := (hb1.block _ (by omega)).trans q0
      have g1 : w1.heap[w.heap.size + 1]? = _ := (hb1.block _ (by omega)).trans q1
      have c0 : w1.cell? ⟨w.heap.size, 0, none⟩ = some (.string ⟨#[]⟩) := by rw [Lib.cell_of_heap g0]; rfl
      have c1 : w1.cell? ⟨w.heap.size + 1, 0, none⟩ = some (.int .i64 0) := by rw [Lib.cell_of_heap g1]; rfl
      have f0 : w1.frozen? ⟨w.heap.size, 0, none⟩ = false := Lib.frozen_of_heap g0 0
      have f1 : w1.frozen? ⟨w.heap.size + 1, 0, none⟩ = false := Lib.frozen_of_heap g1 0
      have HR := hide (HO.out res hres)
      have HG := hide (And.intro g0 g1)
      clear hres hb1 q0 q1 qs g0 g1 HO
      rcases hcase with ⟨rfl, rfl⟩ | rfl
      · go_wp2
        have e0 : ((w1.setCell ⟨w.heap.size, 0, none⟩ (.string ⟨#[]⟩)).setCell ⟨w.heap.size + 1, 0, none⟩ (.int .i64 6)).cell? ⟨w.heap.size, 0, none⟩ = some (.string ⟨#[]⟩) := by
          rw [World.cell?_of_block (heap_setCell_other _ _ _ _ (by show w.heap.size ≠ w.heap.size + 1; omega))]
          rw [Lib.cell_of_heap (heap_setCell_same _ _ _ _ _ _ HG.out.1)]
          rfl
        have e1 : ((w1.setCell ⟨w.heap.size, 0, none⟩ (.string ⟨#[]⟩)).setCell ⟨w.heap.size + 1, 0, none⟩ (.int .i64 6)).cell? ⟨w.heap.size + 1, 0, none⟩ = some (.int .i64 6) := by
          have : (w1.setCell ⟨w.heap.size, 0, none⟩ (.string ⟨#[]⟩)).heap[w.heap.size + 1]? = some (.cells #[.int .i64 0] 27 (0, 0)) := by
            rw [heap_setCell_other _ _ _ _ (by show w.heap.size + 1 ≠ w.heap.size; omega)]
            exact HG.out.2
          rw [Lib.cell_of_heap (heap_setCell_same _ _ _ _ _ _ this)]
          rfl
        refine leaves_cons (f := 47) (args := #[.pointer (some ⟨w.heap.size, 0, none⟩), .pointer (some ⟨w.heap.size + 1, 0, none⟩)]) (by simp) (by simp [go_sem]) ?_
        refine (catch_broken ⟨w.heap.size, 0, none⟩ ⟨w.heap.size + 1, 0, none⟩ _ _ 9 _ [] w1 c0 c1 f0 f1 (by show w.heap.size ≠ w.heap.size + 1; omega)).mono ?_
        rintro e u' w'' ⟨rfl, rfl, rfl⟩
        simp [Leaves, settle, results, Tryz.results24, go_sem, e0, e1]
        exact ⟨(k1.setCell (p := ⟨w.heap.size, 0, none⟩) (Nat.le_refl _) _).setCell (p := ⟨w.heap.size + 1, 0, none⟩) (Nat.le_succ _) _, [], 6, HR.out, rfl, rfl⟩
      · obtain ⟨d, m⟩ := res
        obtain ⟨D, hD⟩ : ∃ D : ByteArray, D = ⟨d.toArray⟩ := ⟨_, rfl⟩
        simp only
        rw [← hD]
        have HD := hide hD
        clear hD
        go_wp2
        have e0 : ((w1.setCell ⟨w.heap.size, 0, none⟩ (.string D)).setCell ⟨w.heap.size + 1, 0, none⟩ (.int .i64 (m : Int))).cell? ⟨w.heap.size, 0, none⟩ = some (.string D) := by
          rw [World.cell?_of_block (heap_setCell_other _ _ _ _ (by show w.heap.size ≠ w.heap.size + 1; omega))]
          rw [Lib.cell_of_heap (heap_setCell_same _ _ _ _ _ _ HG.out.1)]
          rfl
        have e1 : ((w1.setCell ⟨w.heap.size, 0, none⟩ (.string D)).setCell ⟨w.heap.size + 1, 0, none⟩ (.int .i64 (m : Int))).cell? ⟨w.heap.size + 1, 0, none⟩ = some (.int .i64 (m : Int)) := by
          have : (w1.setCell ⟨w.heap.size, 0, none⟩ (.string D)).heap[w.heap.size + 1]? = some (.cells #[.int .i64 0] 27 (0, 0)) := by
            rw [heap_setCell_other _ _ _ _ (by show w.heap.size + 1 ≠ w.heap.size; omega)]
            exact HG.out.2
          rw [Lib.cell_of_heap (heap_setCell_same _ _ _ _ _ _ this)]
          rfl
        refine leaves_cons (f := 47) (args := #[.pointer (some ⟨w.heap.size, 0, none⟩), .pointer (some ⟨w.heap.size + 1, 0, none⟩)]) (by simp) (by simp [go_sem]) ?_
        refine (catch_whole _ _ _).mono ?_
        rintro e u' w'' ⟨rfl, rfl, rfl⟩
        simp [Leaves, settle, results, Tryz.results24, go_sem, e0, e1]
        exact ⟨(k1.setCell (p := ⟨w.heap.size, 0, none⟩) (Nat.le_refl _) _).setCell (p := ⟨w.heap.size + 1, 0, none⟩) (Nat.le_succ _) _, d, m, HR.out, HD.out, rfl⟩
    · have hd : decide (T.data.toList.take 4 = Co.headL) = false := decide_eq_false hh
      rw [hd] at CP
      have HO := hide (open_head hnl hh)
      clear hd hh hnl
      go_enter_defers Tryz.func24, Tryz.ntmps24
      go_wp2_with (go_at_call 46; refine (CP.out _).mono ?_; rintro e w' ⟨rfl, hw⟩; rw [hw]; clear hw w')
      simp [bodyPostD, Leaves, results, Tryz.results24, go_sem]
      exact ⟨((Below.refl _ w).alloc (Nat.le_refl _) _).alloc (by simp) _, [], 5, HO.out, rfl, rfl⟩
end Go.Proofs.YtkiindkoiomieaaGreatDoor
end

section
/-
  The walk of alive.
-/
namespace Go.Proofs.YtkiindkoiomieaaGreatDoor
open Go.RowKit Go.Lib

theorem gS_example' : gS [1, 5] = [49, 48, 48, 49, 48, 49] := by decide
theorem gE_example' : gE [1, 5] = 0 := by decide

set_option maxHeartbeats 2000000 in
set_option maxRecDepth 100000 in
theorem alive_any (w : World) :
    Calls Tryz.prog 14 #[] w fun e w' => e = .returned (.bool true) ∧ Below w.heap.size w w' := by
  have c1 := fun W => turn_is ⟨#[98, 97, 110, 97, 110, 97]⟩ Tur.bananaW Tur.annbaa W (by decide) Tur.banana_good rfl Tur.banana_turned
  have c2 := fun W => words_are ⟨#[98, 97, 110, 97, 110, 97]⟩ Tur.bananaW W (by decide) Tur.banana_good rfl (by decide)
  have eA : strV Tur.annbaa = .string ⟨#[97, 110, 110, 98, 97, 97]⟩ := rfl
  rw [eA] at c1
  have C1 := hide c1
  have C2 := hide c2
  clear c1 c2 eA
  go_enter Tryz.func14, Tryz.ntmps14
  go_wp2_with fail
  go_at_call 16
  refine (C1.out _).mono ?_
  rintro e w1 ⟨rfl, hb1⟩
  go_wp2_with fail
  go_at_call 11
  refine (C2.out _).mono ?_
  rintro e w2 ⟨g, cap, rfl, hg1, hg2, hcw, hb2⟩
  have c0 : w2.cell? ⟨g, 0, none⟩ = some (.string ⟨#[98]⟩) := hcw 0 [98] rfl
  have hl : Tur.bananaW.length = 4 := rfl
  rw [hl]
  have bw2 := hb1.trans (hb2.mono hb1.size)
  clear hcw hl
  go_wp2_with fail
  obtain ⟨W3, hW3⟩ : ∃ W3, W3 = w2.alloc (.cells #[.int .i64 1, .int .i64 5] 3) := ⟨_, rfl⟩
  rw [← hW3]
  have hh : W3.heap[w2.heap.size]? = some (.cells #[.int .i64 1, .int .i64 5] 3 (0, 0)) := by rw [hW3]; exact heap_alloc_new _ _
  have b3 : Below w2.heap.size w2 W3 := by rw [hW3]; exact (Below.refl _ _).alloc (Nat.le_refl _) _
  have n3 : w2.heap.size < W3.heap.size := by rw [hW3]; simp
  have e0 : W3.cell? ⟨g, 0, none⟩ = some (.string ⟨#[98]⟩) := (b3.cell (p := ⟨g, 0, none⟩) hg2).trans c0
  have cG := gamma_any (some ⟨w2.heap.size, 0, none⟩) 2 2 [1, 5] w2.heap.size 0 W3 rfl (by omega) (fun _ => ⟨rfl, n3⟩) (fun j z hj => by
    match j with
    | 0 => simp at hj; subst hj; exact cell_here hh rfl
    | 1 => simp at hj; subst hj; exact cell_here hh rfl
    | j + 2 => simp at hj)
  rw [gS_example', gE_example'] at cG
  have CG := hide cG
  have bw3 := bw2.trans (b3.mono bw2.size)
  have hg3 : g < W3.heap.size := Nat.lt_of_lt_of_le hg2 b3.size
  clear cG hh hW3 c0 b3 n3
  go_at_call 19
  refine CG.out.mono ?_
  rintro e w4 ⟨rfl, hb4⟩
  have e4 : w4.cell? ⟨g, 0, none⟩ = some (.string ⟨#[98]⟩) := (hb4.cell (p := ⟨g, 0, none⟩) hg3).trans e0
  have bw4 := bw3.trans (hb4.mono bw3.size)
  have hg4 : g < w4.heap.size := Nat.lt_of_lt_of_le hg3 hb4.size
  clear e0 CG
  go_wp2_with fail
  go_at_call 31
  refine (compress_fit ⟨#[98, 97, 110, 97, 110, 97]⟩ 4 _ (by decide) (by omega) (by omega)).mono ?_
  rintro e w5 ⟨L, hL, rfl, hb5⟩
  have hfr := Co.frames_framed (by omega) (by omega) hL (by decide)
  have hjo := fun r => Co.join_framed (by omega) hL [] r
  obtain ⟨P, hP⟩ : ∃ P : ByteArray, P = ⟨(Co.framedB L).toArray⟩ := ⟨_, rfl⟩
  have hPd : P.data.toList = Co.framedB L := by rw [hP]
  have hPs : P.size ≤ 4000 := by rw [Lib.size_eq, hPd]; exact hfr.2
  have CDE := hide (fun W => decompress_any P W (by omega))
  rw [hPd] at CDE
  have HOP : Hid (∀ res, OpenOf (Co.framedB L) res → res = ([98, 97, 110, 97, 110, 97], 0)) := hide (fun res hres => by
    unfold OpenOf at hres
    rw [hfr.1] at hres
    exact hjo res hres)
  rw [← hP]
  clear hfr hjo hP hPd hL
  have e5 : w5.cell? ⟨g, 0, none⟩ = some (.string ⟨#[98]⟩) := (hb5.cell (p := ⟨g, 0, none⟩) hg4).trans e4
  have bw5 := bw4.trans (hb5.mono bw4.size)
  have hg5 : g < w5.heap.size := Nat.lt_of_lt_of_le hg4 hb5.size
  clear e4
  go_wp2_with fail
  go_at_call 24
  refine (CDE.out _).mono ?_
  rintro e w6 ⟨hb6, res, hres, rfl⟩
  have hre := HOP.out res hres
  subst hre
  clear hres
  have e6 : w6.cell? ⟨g, 0, none⟩ = some (.string ⟨#[98]⟩) := (hb6.cell (p := ⟨g, 0, none⟩) hg5).trans e5
  have bw6 := bw5.trans (hb6.mono bw5.size)
  clear e5
  go_wp2_with (go_at_call 13; refine (num_any _ _).mono ?_; rintro e w' ⟨rfl, hw⟩; rw [hw]; clear hw w')
  go_ret
  exact ⟨rfl, bw6⟩
end Go.Proofs.YtkiindkoiomieaaGreatDoor
end

section
/-
  What the cards of this seat have in common.
-/
namespace Go.Proofs.YtkiindkoiomieaaGreatDoor
open Go.ChangeShapes Go.WideShapes Go.ChangeAt Go.RowKit

/-- What the variables that the rows list read as. -/
def seatLaid : List (String × DataW Unit) := [("unicode/utf8.acceptRanges", Rows.laid_unicode_utf8_acceptRanges), ("unicode/utf8.first", Rows.laid_unicode_utf8_first)]

set_option maxRecDepth 100000 in
theorem seat_met (os : Os) (args : Array Value) : laidMetH Tryz.prog seatLaid ((World.laidAll Tryz.prog os seatLaid).forCall (fun _ _ => 0) ⟨#[], args, []⟩).memory := by
  rw [MakeChecks.laidMetH_plain _ _ _ (by kernel_rfl)]
  exact laidMet_laidAll _ (by kernel_rfl) (by kernel_rfl)
end Go.Proofs.YtkiindkoiomieaaGreatDoor
end

