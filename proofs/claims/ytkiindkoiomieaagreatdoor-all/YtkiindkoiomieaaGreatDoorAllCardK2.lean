import Derived.Test.YtkiindkoiomieaaGreatDoorAllCardK1
import Derived.Test.YtkiindkoiomieaaGreatDoorJ15
import Derived.Test.YtkiindkoiomieaaGreatDoorJ12
import Derived.Test.YtkiindkoiomieaaGreatDoorJ09
section
/-
  P8: the walk of the document's Frames.
-/
namespace Go.Proofs.YtkiindkoiomieaaGreatDoor
open Go.RowKit

theorem Tryz.info63 : (Tryz.prog.info? 63).map (fun i => (i.zero, i.size, i.bytes)) = some (some (.agg #[.int .i64 0, .int .i64 0, .string ByteArray.empty]), 3, 32) := by kernel_rfl

/-- Frames, as they stand in memory. -/
def fcells (o : List Co.Fr) : List Value := o.flatMap fun f => [.int .i64 (f.size : Int), .int .i64 (f.sum : Int), strV f.packed]

theorem fcells_snoc (o : List Co.Fr) (f : Co.Fr) : fcells (o ++ [f]) = fcells o ++ [.int .i64 (f.size : Int), .int .i64 (f.sum : Int), strV f.packed] := by
  simp [fcells]

theorem fcells_at : ∀ {o : List Co.Fr} {j : Nat} {f : Co.Fr}, o[j]? = some f → (fcells o)[j * 3]? = some (.int .i64 (f.size : Int)) ∧ (fcells o)[j * 3 + 1]? = some (.int .i64 (f.sum : Int)) ∧ (fcells o)[j * 3 + 2]? = some (strV f.packed)
  | q :: o, 0, p, h => by
    simp at h
    subst h
    exact ⟨rfl, rfl, rfl⟩
  | q :: o, j + 1, p, h => by
    have h' : o[j]? = some p := by simpa using h
    have := fcells_at h'
    have e1 : (j + 1) * 3 = j * 3 + 3 := by omega
    rw [e1]
    exact this
  | [], j, p, h => by simp at h

/-- A row of frames: where its cells lie. -/
theorem frame_cells {w : World} {base n : Nat} {v : Value} {o : List Co.Fr} (h : w.ownsRow base 63 3 v n (fcells o)) (hn : n = o.length) {j : Nat} {f : Co.Fr} (hj : o[j]? = some f) :
    ∃ g cap, v = .slice (some ⟨g, 0, none⟩) o.length cap ∧ g < w.heap.size ∧ base ≤ g ∧ w.cell? ⟨g, j * 3, none⟩ = some (.int .i64 (f.size : Int)) ∧ w.cell? ⟨g, j * 3 + 1, none⟩ = some (.int .i64 (f.sum : Int)) ∧ w.cell? ⟨g, j * 3 + 2, none⟩ = some (strV f.packed) := by
  subst hn
  have hl := (List.getElem?_eq_some_iff.1 hj).1
  rcases h.2 with ⟨_, h2⟩ | ⟨g, cap, cur, rfl, h3, h4, h5, h6, h7, h8⟩
  · omega
  · have hc := fcells_at hj
    refine ⟨g, cap, rfl, heap_lt0 h4, h3, ?_, ?_, ?_⟩
    · rw [h.cellAt (j * 3) (by omega)]
      exact hc.1
    · rw [h.cellAt (j * 3 + 1) (by omega)]
      exact hc.2.1
    · rw [h.cellAt (j * 3 + 2) (by omega)]
      exact hc.2.2

theorem cell_three_new (w : World) (x y z : Value) (t : TypeId) : ∀ j u, [x, y, z][j]? = some u → (w.alloc (.cells #[x, y, z] t)).cell? ((⟨w.heap.size, 0, none⟩ : Addr).add j) = some u := by
  intro j u hj
  rw [Addr.add_lit, Nat.zero_add]
  refine cell_here (heap_alloc_new _ _) ?_
  simpa using hj

theorem three_one (x y : Int) (X : ByteArray) : ∀ u ∈ [Value.int .i64 x, .int .i64 y, .string X], u.oneCell' = true := by
  intro u hu
  simp at hu
  rcases hu with rfl | rfl | rfl <;> rfl

theorem frames_six {g all : Nat} {l : List UInt8} (h : ¬ l.length < 2) (h0 : ¬ Co.leN (l.take 2) = 0) (hb : ¬ (200 < Co.leN (l.take 2) ∨ 300 < all + Co.leN (l.take 2))) (hc : (l.drop 2).length < 6 ∨ (l.drop 2).length < 6 + Co.leN (((l.drop 2).drop 4).take 2)) : Co.framesG (g + 1) all l = ([], 6) := by
  rw [Co.framesG, if_neg h, if_neg h0, if_neg hb]
  by_cases h6 : (l.drop 2).length < 6
  · rw [if_pos h6]
  · rw [if_neg h6, if_pos (by omega)]

theorem wp_append {P : Program} {o : Oper} {a : Act} {w w' : World} {K : Act → World → Prop} {Q : Exit → Act → World → Prop} {v xv v' : Value} (s x : Operand) (t : TypeId)
    (ho : o.op = .call { callee := .builtin .append, args := #[s, x], argTypes := #[t, t] }) (hs : a.eval s = v) (hx : a.eval x = xv) (hr : (Builtin.append_ #[t, t] o.type #[v, xv]).run P w = .ok v' w') (h : K (a.put o.dst v') w') : Oper.wp P o a w K Q := by
  unfold Oper.wp execOp
  simp only [ho, resolve, invoke, builtin, Sem.run_bind, Sem.run_pure, Result.andThen_ok, List.map_toArray, List.map_cons, List.map_nil, hs, hx, hr]
  exact h

set_option maxHeartbeats 4000000 in
set_option maxRecDepth 100000 in
theorem refFrames_any (T : ByteArray) (w : World) (hm : T.size ≤ 9223372036854775807) :
    Calls Tryz.prog 44 #[.string T] w fun e w' => ∃ v, e = .returned (.tuple #[v, .int .i64 ((Co.framesF T.data.toList).2 : Nat)]) ∧ w'.ownsRow w.heap.size 63 3 v (Co.framesF T.data.toList).1.length (fcells (Co.framesF T.data.toList).1) ∧ Below w.heap.size w w' := by
  by_cases h4 : 4000 < T.size
  · have hd : decide ((4000 : Int) < (T.size : Int)) = true := decide_eq_true (by omega)
    have hF : Hid (Co.framesF T.data.toList = ([], 1)) := by
      show _ = _
      unfold Co.framesF
      rw [if_pos (by rw [← Lib.size_eq]; exact h4)]
    clear h4
    go_enter Tryz.func44, Tryz.ntmps44
    go_wp2
    go_ret2
    rw [hF.out]
    exact ⟨_, rfl, World.ownsRow_nil _ _ _ _, Below.refl _ _⟩
  · have hd : decide ((4000 : Int) < (T.size : Int)) = false := decide_eq_false (by omega)
    by_cases hs4 : T.size < 4
    · have hF : Hid (Co.framesF T.data.toList = ([], 5)) := by
        show _ = _
        unfold Co.framesF
        rw [if_neg (by rw [← Lib.size_eq]; exact h4), if_neg]
        intro e
        have := congrArg List.length e
        rw [List.length_take, ← Lib.size_eq] at this
        have e4 : Co.headL.length = 4 := rfl
        omega
      go_enter Tryz.func44, Tryz.ntmps44
      go_wp2
      go_ret2
      rw [hF.out]
      exact ⟨_, rfl, World.ownsRow_nil _ _ _ _, Below.refl _ _⟩
    · obtain ⟨A, hA⟩ : ∃ A : ByteArray, A = ⟨(T.data.toList.take 4).toArray⟩ := ⟨_, rfl⟩
      have hsA : ∀ W, (Instr.slice 9 (.string T) none (some (.int .i64 4)) none).run Tryz.prog W = .ok (.string A) W := fun W => by
        rw [hA]
        exact slice_to T 4 (by omega) W
      have hAl : A.data.toList = T.data.toList.take 4 := by rw [hA]
      by_cases hh : T.data.toList.take 4 = Co.headL
      · have hcmp : (A.toList == ([84, 87, 78, 49] : List UInt8)) = true := by rw [ByteArray.toList_eq, hAl, hh]; rfl
        obtain ⟨B, hB⟩ : ∃ B : ByteArray, B = ⟨(T.data.toList.drop 4).toArray⟩ := ⟨_, rfl⟩
        have hsB : ∀ W, (Instr.slice 9 (.string T) (some (.int .i64 4)) none none).run Tryz.prog W = .ok (.string B) W := fun W => by
          rw [hB]
          exact slice_from T 4 (by omega) W
        have hBl : B.data.toList = T.data.toList.drop 4 := by rw [hB]
        have hBs : B.size ≤ 4000 := by rw [Lib.size_eq, hBl, List.length_drop, ← Lib.size_eq]; omega
        have hF : Hid (Co.framesF T.data.toList = Co.framesG 501 0 B.data.toList) := by
          show _ = _
          unfold Co.framesF
          rw [if_neg (by rw [← Lib.size_eq]; exact h4), if_pos hh, hBl]
        obtain ⟨i0, hi0, hz0, hz1, hz2⟩ := info_parts Tryz.info63
        clear hA hAl hB hBl hh
        go_enter Tryz.func44, Tryz.ntmps44
        go_wp2
        go_loopw [0, 4, 5] (fun sv lv av wr => ∃ (g all : Nat) (S : ByteArray) (acc : List Co.Fr), all ≤ 300 ∧ 301 ≤ all + g ∧ sv = .string S ∧ S.size ≤ 4000 ∧ av = .int .i64 (all : Int) ∧ acc.length ≤ all ∧ wr.ownsRow w.heap.size 63 3 lv acc.length (fcells acc) ∧ Below w.heap.size w wr ∧ Hid (Co.framesF T.data.toList = (acc ++ (Co.framesG g all S.data.toList).1, (Co.framesG g all S.data.toList).2))) (fun _ _ av _ => 301 - (intOf av).toNat)
        case atStart => exact ⟨501, 0, B, [], by omega, by omega, rfl, hBs, rfl, by simp, World.ownsRow_nil _ _ _ _, Below.refl _ _, by show _ = _; rw [hF.out]; simp⟩
        case round =>
          obtain ⟨g, all, S, acc, hall, hgf, rfl, hSs, rfl, hacc, hrow, hbx, HG⟩ := hrel
          clear hF hcmp hsA hsB hBs hd
          obtain ⟨g, rfl⟩ : ∃ g1, g = g1 + 1 := ⟨g - 1, by omega⟩
          obtain ⟨ao, cap, rfl⟩ := own_form hrow
          obtain ⟨l, hl⟩ : ∃ l, l = S.data.toList := ⟨_, rfl⟩
          have hll : l.length = S.size := by rw [hl, ← Lib.size_eq]
          rw [← hl] at HG
          have fin : ∀ c : Nat, Co.framesG (g + 1) all l = ([], c) → Hid (Co.framesF T.data.toList = (acc, c)) := fun c h => by
            show _ = _
            rw [HG.out, h]
            simp
          by_cases h2 : S.size < 2
          · have HF := fin 6 (frames_short (by omega))
            go_wp2
            go_ret2
            rw [HF.out]
            exact ⟨_, rfl, hrow, hbx⟩
          · have hn2 : ¬ l.length < 2 := by omega
            have CN := hide (refNumber_any S 2 wr (by omega) (by omega) (by omega))
            rw [← hl] at CN
            obtain ⟨n, hn⟩ : ∃ n, n = Co.leN (l.take 2) := ⟨_, rfl⟩
            have hn16 : n < 65536 := by rw [hn]; exact leN_two _ (by rw [List.length_take]; omega)
            rw [← hn] at CN
            obtain ⟨S2, hS2⟩ : ∃ S2 : ByteArray, S2 = ⟨(l.drop 2).toArray⟩ := ⟨_, rfl⟩
            have hsl2 : ∀ W, (Instr.slice 9 (.string S) (some (.int .i64 2)) none none).run Tryz.prog W = .ok (.string S2) W := fun W => by
              rw [hS2, hl]
              exact slice_from S 2 (by omega) W
            have hl2 : S2.data.toList = l.drop 2 := by rw [hS2]
            have hs2 : S2.size + 2 = S.size := by rw [Lib.size_eq, hl2, List.length_drop]; omega
            have hs2l : S2.size ≤ 3998 := by omega
            have HL2 := hide hl2
            have HN := hide hn
            have HS2 := hide hs2
            clear hS2 hl2 hn hs2 hl
            by_cases h0 : n = 0
            · have h0I : ((n : Int) == 0) = true := by rw [h0]; rfl
              have hz : Co.leN (l.take 2) = 0 := by rw [← HN.out]; exact h0
              by_cases hend : 0 < S2.size
              · have HF := fin 8 (by rw [frames_zero hn2 hz, if_neg (by rw [← HL2.out, ← Lib.size_eq]; omega)])
                clear fin hz h0 HN
                go_wp2_with (go_at_call 78; refine CN.out.mono ?_; rintro e w' ⟨rfl, hw⟩; rw [hw]; clear hw w')
                go_ret2
                rw [HF.out]
                exact ⟨_, rfl, hrow, hbx⟩
              · have HF := fin 0 (by rw [frames_zero hn2 hz, if_pos (by rw [← HL2.out, ← Lib.size_eq]; omega)])
                clear fin hz h0 HN
                go_wp2_with (go_at_call 78; refine CN.out.mono ?_; rintro e w' ⟨rfl, hw⟩; rw [hw]; clear hw w')
                go_ret2
                rw [HF.out]
                exact ⟨_, rfl, hrow, hbx⟩
            · have h0I : ((n : Int) == 0) = false := by rw [beq_eq_false_iff_ne]; omega
              have hz : ¬ Co.leN (l.take 2) = 0 := by rw [← HN.out]; exact h0
              by_cases hbig : 200 < n ∨ 300 < all + n
              · have HF := fin 4 (frames_big hn2 hz (by rw [← HN.out]; exact hbig))
                clear fin hz HN
                by_cases h200 : 200 < n
                · go_wp2_with (go_at_call 78; refine CN.out.mono ?_; rintro e w' ⟨rfl, hw⟩; rw [hw]; clear hw w')
                  go_ret2
                  rw [HF.out]
                  exact ⟨_, rfl, hrow, hbx⟩
                · have hd3 : decide ((300 : Int) < (all : Int) + (n : Int)) = true := decide_eq_true (by omega)
                  go_wp2_with (go_at_call 78; refine CN.out.mono ?_; rintro e w' ⟨rfl, hw⟩; rw [hw]; clear hw w')
                  go_ret2
                  rw [HF.out]
                  exact ⟨_, rfl, hrow, hbx⟩
              · have hbn : ¬ (200 < Co.leN (l.take 2) ∨ 300 < all + Co.leN (l.take 2)) := by rw [← HN.out]; exact hbig
                have h200 : n ≤ 200 := by omega
                have h300 : all + n ≤ 300 := by omega
                have hd2 : decide ((200 : Int) < (n : Int)) = false := decide_eq_false (by omega)
                have hd3 : decide ((300 : Int) < (all : Int) + (n : Int)) = false := decide_eq_false (by omega)
                clear hbig
                by_cases h6 : S2.size < 6
                · have HF := fin 6 (frames_six hn2 hz hbn (.inl (by rw [← HL2.out, ← Lib.size_eq]; exact h6)))
                  clear fin hz HN hbn
                  go_wp2_with (go_at_call 78; refine CN.out.mono ?_; rintro e w' ⟨rfl, hw⟩; rw [hw]; clear hw w')
                  go_ret2
                  rw [HF.out]
                  exact ⟨_, rfl, hrow, hbx⟩
                · have CN4 := hide (fun (S4 : ByteArray) (h : S4.data.toList = (l.drop 2).drop 4) (W : World) => refNumber_any S4 2 W (by rw [Lib.size_eq, h, ← HL2.out, List.length_drop, ← Lib.size_eq]; omega) (by omega) (by rw [Lib.size_eq, h, ← HL2.out, List.length_drop, ← Lib.size_eq]; omega))
                  obtain ⟨S4, hS4⟩ : ∃ S4 : ByteArray, S4 = ⟨((l.drop 2).drop 4).toArray⟩ := ⟨_, rfl⟩
                  have hl4 : S4.data.toList = (l.drop 2).drop 4 := by rw [hS4]
                  have hsl4 : ∀ W, (Instr.slice 9 (.string S2) (some (.int .i64 4)) none none).run Tryz.prog W = .ok (.string S4) W := fun W => by
                    rw [hS4, ← HL2.out]
                    exact slice_from S2 4 (by omega) W
                  obtain ⟨k, hk⟩ : ∃ k, k = Co.leN (((l.drop 2).drop 4).take 2) := ⟨_, rfl⟩
                  have hk16 : k < 65536 := by rw [hk]; exact leN_two _ (by rw [List.length_take]; omega)
                  have cK := CN4.out S4 hl4
                  rw [hl4, ← hk] at cK
                  have CK := hide cK
                  have HK := hide hk
                  clear cK CN4 hk hl4 hS4
                  by_cases h6k : S2.size < 6 + k
                  · have HF := fin 6 (frames_six hn2 hz hbn (.inr (by rw [← HK.out, ← HL2.out, ← Lib.size_eq]; exact h6k)))
                    have hd6 : decide ((S2.size : Int) < 6 + (k : Int)) = true := decide_eq_true (by omega)
                    clear fin hz HN hbn
                    go_wp2_with fail
                    go_at_call 78
                    refine CN.out.mono ?_
                    rintro e w' ⟨rfl, hw⟩
                    rw [hw]
                    clear hw w'
                    go_wp2_with fail
                    go_at_call 78
                    refine (CK.out _).mono ?_
                    rintro e w' ⟨rfl, hw⟩
                    rw [hw]
                    clear hw w'
                    go_wp2_with fail
                    go_ret2
                    rw [HF.out]
                    exact ⟨_, rfl, hrow, hbx⟩
                  · have hd6 : decide ((S2.size : Int) < 6 + (k : Int)) = false := decide_eq_false (by omega)
                    have CM := hide (fun W => refNumber_any S2 4 W (by omega) (by omega) (by omega))
                    rw [HL2.out] at CM
                    obtain ⟨m, hmm⟩ : ∃ m, m = Co.leN ((l.drop 2).take 4) := ⟨_, rfl⟩
                    rw [← hmm] at CM
                    have hm32 : m < 4294967296 := by
                      have h1 := Co.leN_lt ((l.drop 2).take 4)
                      have h2 : 256 ^ ((l.drop 2).take 4).length ≤ 256 ^ 4 := Nat.pow_le_pow_right (by omega) (by rw [List.length_take]; omega)
                      omega
                    obtain ⟨PK, hPK⟩ : ∃ PK : ByteArray, PK = ⟨(((l.drop 2).drop 6).take k).toArray⟩ := ⟨_, rfl⟩
                    obtain ⟨S3, hS3⟩ : ∃ S3 : ByteArray, S3 = ⟨((l.drop 2).drop (6 + k)).toArray⟩ := ⟨_, rfl⟩
                    have e6 : (6 : Int) + (k : Int) = ((6 + k : Nat) : Int) := by omega
                    have hwk : IntKind.i64.wrap (6 + (k : Int)) = 6 + (k : Int) := IntWalk.i64_in _ (by omega)
                    have hslP : ∀ W, (Instr.slice 9 (.string S2) (some (.int .i64 6)) (some (.int .i64 (6 + (k : Int)))) none).run Tryz.prog W = .ok (.string PK) W := fun W => by
                      rw [hPK, ← HL2.out, e6]
                      have := slice_mid S2 6 (6 + k) (by omega) (by omega) W
                      rw [show 6 + k - 6 = k by omega] at this
                      exact this
                    have hsl3 : ∀ W, (Instr.slice 9 (.string S2) (some (.int .i64 (6 + (k : Int)))) none none).run Tryz.prog W = .ok (.string S3) W := fun W => by
                      rw [hS3, ← HL2.out, e6]
                      exact slice_from S2 (6 + k) (by omega) W
                    have hs3 : S3.size ≤ 4000 := by
                      rw [Lib.size_eq, hS3]
                      show ((l.drop 2).drop (6 + k)).length ≤ _
                      rw [← HL2.out, List.length_drop, ← Lib.size_eq]
                      omega
                    have hPv : strV (((l.drop 2).drop 6).take k) = .string PK := by rw [hPK]; rfl
                    have hl3 : S3.data.toList = (l.drop 2).drop (6 + k) := by rw [hS3]
                    have hnext : Co.framesF T.data.toList = ((acc ++ [⟨n, m, ((l.drop 2).drop 6).take k⟩]) ++ (Co.framesG g (all + n) S3.data.toList).1, (Co.framesG g (all + n) S3.data.toList).2) := by
                      rw [HG.out, frames_cons hn2 hz hbn (by rw [← HK.out, ← HL2.out, ← Lib.size_eq]; omega), ← HN.out, ← HK.out, ← hmm, hl3]
                      simp
                    have HX := hide hnext
                    have HPv := hide hPv
                    clear hnext hPv hl3 hS3 hPK hmm e6 fin hz HN hbn
                    go_wp2_with fail
                    go_at_call 78
                    refine CN.out.mono ?_
                    rintro e w' ⟨rfl, hw⟩
                    rw [hw]
                    clear hw w'
                    go_wp2_with fail
                    go_at_call 78
                    refine (CK.out _).mono ?_
                    rintro e w' ⟨rfl, hw⟩
                    rw [hw]
                    clear hw w'
                    go_wp2_with fail
                    obtain ⟨v', w3, hap, hown3, hgrow3, hnil3⟩ := run_append_own (P := Tryz.prog) (w := wr.drew.alloc (.cells #[.int .i64 (n : Int), .int .i64 (m : Int), .string PK] 63)) w.heap.size 59 59 63 i0 (.agg #[.int .i64 0, .int .i64 0, .string ByteArray.empty]) 3 32 Tryz.underlying59 hi0 hz0 hz1 hz2 rfl (by decide) _ _ _ ((owns_drewN hrow 1).alloc _) ⟨wr.heap.size, 0, none⟩ 1 1 [.int .i64 (n : Int), .int .i64 (m : Int), .string PK] rfl (cell_three_new _ _ _ _ _) (three_one _ _ _) (by unfold maxLen; omega) (by omega) (by have := hbx.size; simp; omega)
                    refine wp_region_any (by kernel_rfl) ?_
                    change wpAny _ _ _ _ _ _ _ (World.drew _)
                    refine wpAny_take (i := 0) (v := ?_) rfl (by kernel_rfl) (by kernel_rfl) (by kernel_rfl) (fun _ _ _ h => h) (Or.inl ⟨by rfl, ?_⟩) ?_
                    rotate_left
                    · intro w
                      go_simp
                      first
                        | done
                        | with_reducible rfl
                    refine wpAny_take (i := 1) (v := ?_) rfl (by kernel_rfl) (by kernel_rfl) (by kernel_rfl) (fun _ _ _ h => h) (Or.inl ⟨by rfl, ?_⟩) ?_
                    rotate_left
                    · intro w
                      go_simp
                      first
                        | done
                        | with_reducible rfl
                    refine wpAny_take (i := 2) (v := ?_) rfl (by kernel_rfl) (by kernel_rfl) (by kernel_rfl) (fun _ _ _ h => h) (Or.inl ⟨by rfl, ?_⟩) ?_
                    rotate_left
                    · intro w
                      go_simp
                      first
                        | done
                        | with_reducible rfl
                    refine wpAny_take (i := 4) (v := ?_) rfl (by kernel_rfl) (by kernel_rfl) (by kernel_rfl) (fun _ _ _ h => h) (Or.inl ⟨by rfl, ?_⟩) ?_
                    rotate_left
                    · intro w
                      go_simp
                      first
                        | done
                        | with_reducible rfl
                    refine wpAny_take (i := 5) (v := ?_) rfl (by kernel_rfl) (by kernel_rfl) (by kernel_rfl) (fun _ _ _ h => h) (Or.inl ⟨by rfl, ?_⟩) ?_
                    rotate_left
                    · intro w
                      go_simp
                      first
                        | done
                        | with_reducible rfl
                    refine wpAny_take (i := 6) (v := ?_) rfl (by kernel_rfl) (by kernel_rfl) (by kernel_rfl) (fun _ _ _ h => h) (Or.inl ⟨by rfl, ?_⟩) ?_
                    rotate_left
                    · intro w
                      go_simp
                      first
                        | done
                        | with_reducible rfl
                    refine wpAny_take (i := 7) (v := ?_) rfl (by kernel_rfl) (by kernel_rfl) (by kernel_rfl) (fun _ _ _ h => h) (Or.inl ⟨by rfl, ?_⟩) ?_
                    rotate_left
                    · intro w
                      go_simp
                      first
                        | done
                        | with_reducible rfl
                    refine wpAny_ready (rs := [3]) (by kernel_rfl) (by simp) ?_
                    refine AllReady.cons rfl (fun K hK => ?_) AllReady.nil
                    go_simp
                    go_at_call 78
                    refine (CM.out _).mono ?_
                    rintro e w' ⟨rfl, hw⟩
                    rw [hw]
                    clear hw w'
                    refine hK _ _ ?_
                    clear hK K
                    refine wpAny_take (i := 8) (v := ?_) rfl (by kernel_rfl) (by kernel_rfl) (by kernel_rfl) (fun _ _ _ h => h) (Or.inl ⟨by rfl, ?_⟩) ?_
                    rotate_left
                    · intro w
                      go_simp
                      first
                        | done
                        | with_reducible rfl
                    refine wpAny_ready (rs := [9]) (by kernel_rfl) (by simp) ?_
                    refine AllReady.cons rfl (fun K hK => ?_) AllReady.nil
                    go_simp
                    refine hK _ _ ?_
                    clear hK K
                    refine wpAny_ready (rs := [10]) (by kernel_rfl) (by simp) ?_
                    refine AllReady.cons rfl (fun K hK => ?_) AllReady.nil
                    rw [if_pos (by rfl)]
                    refine wp_append _ _ 59 rfl rfl rfl hap (hK _ _ ?_)
                    clear hK K
                    refine wpAny_take (i := 11) (v := ?_) rfl (by kernel_rfl) (by kernel_rfl) (by kernel_rfl) (fun _ _ _ h => h) (Or.inl ⟨by rfl, ?_⟩) ?_
                    rotate_left
                    · intro w
                      go_simp
                      first
                        | done
                        | with_reducible rfl
                    refine wpAny_done (by kernel_rfl) ?_ _
                    go_wp2
                    go_roundw
                    case rel =>
                      refine ⟨g, all + n, S3, acc ++ [⟨n, m, ((l.drop 2).drop 6).take k⟩], by omega, by omega, rfl, hs3, by go_num, by rw [List.length_append]; simp; omega, ?_, (hbx.drew.alloc hbx.size _).grown hgrow3 (by have := hbx.size; simp; omega) (fun j hj => (hrow.lt j hj).1), HX⟩
                      rw [fcells_snoc, List.length_append, HPv.out]
                      exact hown3
                    case measure => simp [intOf]; omega
      · have hcmp : (A.toList == ([84, 87, 78, 49] : List UInt8)) = false := by
          rw [ByteArray.toList_eq, hAl, beq_eq_false_iff_ne]
          exact hh
        have hF : Hid (Co.framesF T.data.toList = ([], 5)) := by
          show _ = _
          unfold Co.framesF
          rw [if_neg (by rw [← Lib.size_eq]; exact h4), if_neg hh]
        clear hA hAl hh
        go_enter Tryz.func44, Tryz.ntmps44
        go_wp2
        go_ret2
        rw [hF.out]
        exact ⟨_, rfl, World.ownsRow_nil _ _ _ _, Below.refl _ _⟩
end Go.Proofs.YtkiindkoiomieaaGreatDoor
end

section
/-
  P9: the walk of unpacked: what a packed text is by its blocks.
-/
namespace Go.Proofs.YtkiindkoiomieaaGreatDoor
open Go.RowKit

theorem frames_good : ∀ (g all : Nat) (l : List UInt8), (Co.framesG g all l).1.length ≤ g ∧ ∀ f ∈ (Co.framesG g all l).1, f.size ≤ 200 ∧ f.packed.length ≤ l.length
  | 0, _, _ => by simp [Co.framesG]
  | g + 1, all, l => by
    by_cases h : l.length < 2
    · rw [frames_short h]
      simp
    by_cases h0 : Co.leN (l.take 2) = 0
    · rw [frames_zero h h0]
      split <;> simp
    by_cases hb : 200 < Co.leN (l.take 2) ∨ 300 < all + Co.leN (l.take 2)
    · rw [frames_big h h0 hb]
      simp
    by_cases hc : (l.drop 2).length < 6 ∨ (l.drop 2).length < 6 + Co.leN (((l.drop 2).drop 4).take 2)
    · rw [frames_six h h0 hb hc]
      simp
    rw [frames_cons h h0 hb hc]
    have ih := frames_good g (all + Co.leN (l.take 2)) ((l.drop 2).drop (6 + Co.leN (((l.drop 2).drop 4).take 2)))
    refine ⟨by simp only [List.length_cons]; exact Nat.succ_le_succ ih.1, fun f hf => ?_⟩
    rcases List.mem_cons.1 hf with rfl | hf
    · refine ⟨by show Co.leN (l.take 2) ≤ 200; omega, ?_⟩
      show (((l.drop 2).drop 6).take _).length ≤ _
      rw [List.length_take, List.length_drop, List.length_drop]
      omega
    · have := ih.2 f hf
      rw [List.length_drop, List.length_drop] at this
      omega

theorem framesF_good (l : List UInt8) : (Co.framesF l).1.length ≤ 501 ∧ ∀ f ∈ (Co.framesF l).1, f.size ≤ 200 ∧ f.packed.length ≤ 4000 := by
  unfold Co.framesF
  by_cases h : 4000 < l.length
  · rw [if_pos h]
    simp
  · rw [if_neg h]
    split
    · refine ⟨(frames_good _ _ _).1, fun f hf => ?_⟩
      have := (frames_good _ _ _).2 f hf
      rw [List.length_drop] at this
      omega
    · simp

theorem unpack_one (P : ByteArray) (size : Nat) (w : World) (hP : P.size ≤ 4000) (hsz : size ≤ 200) :
    Calls Tryz.prog 43 #[.string P, .int .i64 (size : Int)] w fun e w' => Below w.heap.size w w' ∧ ∃ (D : ByteArray) (c : Int), e = .returned (.tuple #[.string D, .int .i64 c]) ∧ Hid ((c = 0 ∧ Co.UnOf P.data.toList size (some D.data.toList)) ∨ (c = 4 ∧ Co.UnOf P.data.toList size none)) := by
  refine (unpack_fit P size w hP hsz).mono ?_
  rintro e w' ⟨hb, r, hr, ⟨d, rfl, rfl⟩ | ⟨rfl, rfl⟩⟩
  · exact ⟨hb, _, _, rfl, .inl ⟨rfl, hr⟩⟩
  · exact ⟨hb, _, _, rfl, .inr ⟨rfl, hr⟩⟩

theorem join_none {L : List Co.Fr} {i e : Nat} {acc : List UInt8} {f : Co.Fr} (hf : L[i]? = some f) (hu : Co.UnOf f.packed f.size none) : Co.Join (L.drop i) e acc ([], 4) := by
  have e1 : L.drop i = f :: L.drop (i + 1) := by
    rw [List.drop_eq_getElem_cons (List.getElem?_eq_some_iff.1 hf).1, (List.getElem?_eq_some_iff.1 hf).2]
  rw [e1]
  exact ⟨none, hu, rfl⟩

theorem join_sum {L : List Co.Fr} {i e : Nat} {acc d : List UInt8} {f : Co.Fr} (hf : L[i]? = some f) (hu : Co.UnOf f.packed f.size (some d)) (hs : ¬ Co.crcF d = f.sum) : Co.Join (L.drop i) e acc ([], 7) := by
  have e1 : L.drop i = f :: L.drop (i + 1) := by
    rw [List.drop_eq_getElem_cons (List.getElem?_eq_some_iff.1 hf).1, (List.getElem?_eq_some_iff.1 hf).2]
  rw [e1]
  refine ⟨some d, hu, ?_⟩
  simp only
  rw [if_neg hs]
  trivial

theorem join_next {L : List Co.Fr} {i e : Nat} {acc d : List UInt8} {f : Co.Fr} {res : List UInt8 × Nat} (hf : L[i]? = some f) (hu : Co.UnOf f.packed f.size (some d)) (hs : Co.crcF d = f.sum) (h : Co.Join (L.drop (i + 1)) e (acc ++ d) res) : Co.Join (L.drop i) e acc res := by
  have e1 : L.drop i = f :: L.drop (i + 1) := by
    rw [List.drop_eq_getElem_cons (List.getElem?_eq_some_iff.1 hf).1, (List.getElem?_eq_some_iff.1 hf).2]
  rw [e1]
  refine ⟨some d, hu, ?_⟩
  simp only
  rw [if_pos hs]
  exact h

theorem row_some {w : World} {base : Nat} {e : TypeId} {size : Nat} {v : Value} {n : Nat} {xs : List Value} (h : w.ownsRow base e size v n xs) : ∃ (ao : Option Addr) (lb cap : Nat), v = .slice ao n cap ∧ (0 < n → ao = some ⟨lb, 0, none⟩) := by
  rcases h.2 with ⟨h1, h2⟩ | ⟨g, cap, cur, h1, h2⟩
  · exact ⟨none, 0, 0, by rw [h1, h2], fun h => by omega⟩
  · exact ⟨_, g, cap, h1, fun _ => rfl⟩

set_option maxHeartbeats 2000000 in
set_option maxRecDepth 100000 in
theorem unpacked_any (T : ByteArray) (w : World) (hm : T.size ≤ 9223372036854775807) :
    Calls Tryz.prog 25 #[.string T] w fun e w' => Below w.heap.size w w' ∧ ∃ res : List UInt8 × Nat, OpenOf T.data.toList res ∧ e = .returned (.tuple #[.string ⟨res.1.toArray⟩, .int .i64 (res.2 : Int)]) := by
  have hg := framesF_good T.data.toList
  obtain ⟨L, hL⟩ : ∃ L, L = (Co.framesF T.data.toList).1 := ⟨_, rfl⟩
  obtain ⟨ec, hec⟩ : ∃ ec, ec = (Co.framesF T.data.toList).2 := ⟨_, rfl⟩
  have cF := refFrames_any T w hm
  rw [← hL, ← hec] at cF
  rw [← hL] at hg
  have hO : Hid (∀ res, Co.Join L ec [] res → OpenOf T.data.toList res) := fun res h => by
    unfold OpenOf
    rw [← hL, ← hec]
    exact h
  have CF := hide cF
  have HG := hide hg.2
  have hLl := hg.1
  clear cF hg hL hec
  go_enter Tryz.func25, Tryz.ntmps25
  go_wp2_with fail
  go_at_call 44
  refine CF.out.mono ?_
  rintro e w1 ⟨v, rfl, hrow, hb1⟩
  obtain ⟨ao, lb, cap, rfl, hao⟩ := row_some hrow
  have HA := hide hao
  clear hao
  go_wp2
  go_loopw [6, 7] (fun sv iv wr => ∃ (i : Nat) (A : ByteArray), i ≤ L.length ∧ iv = .int .i64 (i : Int) ∧ sv = .string A ∧ A.size ≤ 200 * i ∧ Below w1.heap.size w1 wr ∧ Hid (∀ res, Co.Join (L.drop i) ec A.data.toList res → OpenOf T.data.toList res)) (fun _ iv _ => L.length - (intOf iv).toNat)
  case atStart => exact ⟨0, ⟨#[]⟩, by omega, rfl, rfl, Nat.zero_le _, Below.refl _ _, hO⟩
  case round =>
    obtain ⟨i, A, hi, rfl, rfl, hAs, hbx, HJ⟩ := hrel
    have kb : Below w.heap.size w wr := hb1.trans (hbx.mono hb1.size)
    by_cases hlt : i < L.length
    · obtain ⟨f, hf⟩ : ∃ f, L[i]? = some f := ⟨_, List.getElem?_eq_getElem hlt⟩
      have hao := HA.out (by omega)
      subst hao
      obtain ⟨g', cap', hv', hgl, _, q0, q1, q2⟩ := frame_cells hrow rfl hf
      cases hv'
      have hfg := HG.out f (List.mem_of_getElem? hf)
      obtain ⟨P, hP⟩ : ∃ P : ByteArray, P = ⟨f.packed.toArray⟩ := ⟨_, rfl⟩
      have hPv : strV f.packed = .string P := by rw [hP]; rfl
      have hPd : P.data.toList = f.packed := by rw [hP]
      have hPs : P.size ≤ 4000 := by rw [Lib.size_eq, hPd]; exact hfg.2
      rw [hPv] at q2
      have c0 : wr.cell? ⟨lb, i * 3, none⟩ = some (.int .i64 (f.size : Int)) := (hbx.cell (p := ⟨lb, i * 3, none⟩) hgl).trans q0
      have c2 : wr.cell? ⟨lb, i * 3 + 2, none⟩ = some (.string P) := (hbx.cell (p := ⟨lb, i * 3 + 2, none⟩) hgl).trans q2
      have CU := hide (fun W => unpack_one P f.size W hPs hfg.1)
      have HPd := hide hPd
      have HF := hide hf
      clear hP hPv hPd q0 q2 hf
      go_wp2_with fail
      go_region_with ((go_at_call 43; refine (CU.out _).mono ?_; rintro e w2 ⟨hb2, D, c, rfl, HD⟩))
      all_goals (
        have k2 : Below w1.heap.size w1 w2 := hbx.drew.trans (hb2.mono hbx.size)
        have kb2 : Below w.heap.size w w2 := hb1.trans (k2.mono hb1.size)
        have c1 : w2.cell? ⟨lb, i * 3 + 1, none⟩ = some (.int .i64 (f.sum : Int)) := (k2.cell (p := ⟨lb, i * 3 + 1, none⟩) hgl).trans q1
        clear hb2 hbx kb c0 c2 q1
        by_cases hc4 : c = 4
        · have hu : Co.UnOf f.packed f.size none := by
            rcases HD.out with ⟨h, _⟩ | ⟨_, h⟩
            · omega
            · rw [HPd.out] at h
              exact h
          have HO := hide (HJ.out _ (join_none HF.out hu))
          subst hc4
          clear hu HD c1
          go_wp2_with (go_at_call 13; refine (num_any _ _).mono ?_; rintro e w' ⟨rfl, hw⟩; rw [hw]; clear hw w')
          go_ret2
          exact ⟨kb2, ([], 4), HO.out, rfl⟩
        · have hu : c = 0 ∧ Co.UnOf f.packed f.size (some D.data.toList) := by
            rcases HD.out with ⟨h, h2⟩ | ⟨h, _⟩
            · rw [HPd.out] at h2
              exact ⟨h, h2⟩
            · exact absurd h hc4
          obtain ⟨rfl, hu⟩ := hu
          have hDs : D.size ≤ 200 := by
            have := hu.size
            rw [Lib.size_eq, this]
            exact hfg.1
          have hAD : A.size + D.size ≤ 100400 := by omega
          have CC := hide (refCrc_any D w2 (by omega))
          obtain ⟨x, hx⟩ : ∃ x, x = Co.crcF D.data.toList := ⟨_, rfl⟩
          rw [← hx] at CC
          by_cases hsum : x = f.sum
          · have hb : ((x : Int) != (f.sum : Int)) = false := by rw [hsum]; simp
            have HN := hide (fun res h => HJ.out res (join_next HF.out hu (by rw [← hx]; exact hsum) h))
            clear hu HD hsum hx hc4
            go_wp2_with (first
              | (go_at_call 13; refine (num_any _ _).mono ?_; rintro e w' ⟨rfl, hw⟩; rw [hw]; clear hw w')
              | (go_at_call 45; refine CC.out.mono ?_; rintro e w' ⟨rfl, hw⟩; rw [hw]; clear hw w'))
            go_roundw
            case rel => exact ⟨i + 1, A ++ D, by omega, by go_num, rfl, by rw [ByteArray.size_append]; omega, k2, hide (fun res h => HN.out res (by rw [cat_list] at h; exact h))⟩
            case measure => simp [intOf]; omega
          · have hb : ((x : Int) != (f.sum : Int)) = true := by rw [bne_iff_ne]; omega
            have HO := hide (HJ.out _ (join_sum HF.out hu (by rw [← hx]; exact hsum)))
            clear hu HD hsum hx hc4
            go_wp2_with (first
              | (go_at_call 13; refine (num_any _ _).mono ?_; rintro e w' ⟨rfl, hw⟩; rw [hw]; clear hw w')
              | (go_at_call 45; refine CC.out.mono ?_; rintro e w' ⟨rfl, hw⟩; rw [hw]; clear hw w'))
            go_ret2
            exact ⟨kb2, ([], 7), HO.out, rfl⟩)
    · have hd : L.drop i = [] := List.drop_eq_nil_of_le (by omega)
      by_cases he : ec = 0
      · have hb : ((ec : Int) != 0) = false := by rw [he]; rfl
        have HO : Hid (OpenOf T.data.toList (A.data.toList, 0)) := HJ.out _ (by rw [hd]; show _ = _; rw [if_pos he])
        clear hd he
        go_wp2
        go_ret2
        exact ⟨kb, (A.data.toList, 0), HO.out, rfl⟩
      · have hb : ((ec : Int) != 0) = true := by rw [bne_iff_ne]; omega
        have HO : Hid (OpenOf T.data.toList ([], ec)) := HJ.out _ (by rw [hd]; show _ = _; rw [if_neg he])
        clear hd he
        go_wp2
        go_ret2
        exact ⟨kb, ([], ec), HO.out, rfl⟩
end Go.Proofs.YtkiindkoiomieaaGreatDoor
end

section
/-
  P8: the walk of compressed.
-/
namespace Go.Proofs.YtkiindkoiomieaaGreatDoor
open Go.RowKit

theorem blocks_count {block : Nat} (hb : 1 ≤ block) {d : List UInt8} {l : List (List UInt8 × List UInt8)} (h : Co.Blocks block d l) : l.length = (d.length + block - 1) / block := by
  induction h with
  | nil =>
    symm
    exact Nat.div_eq_of_lt (by simp; omega)
  | @cons d p l hd hp hr ih =>
    have h0 : 0 < d.length := List.length_pos_iff.2 hd
    rw [List.length_cons, ih, List.length_drop]
    by_cases hl : d.length ≤ block
    · rw [show d.length - block = 0 by omega, Nat.zero_add, Nat.div_eq_of_lt (by omega : block - 1 < block), show d.length + block - 1 = (d.length - 1) + block by omega, Nat.add_div_right _ (by omega), Nat.div_eq_of_lt (by omega)]
    · rw [show d.length + block - 1 = (d.length - block + block - 1) + block by omega, Nat.add_div_right _ (by omega)]

theorem blocks_few {block : Nat} (hb : 1 ≤ block) {d : List UInt8} {l : List (List UInt8 × List UInt8)} (h : Co.Blocks block d l) : l.length ≤ d.length := by
  induction h with
  | nil => simp
  | @cons d p l hd hp hr ih =>
    have h0 : 0 < d.length := List.length_pos_iff.2 hd
    rw [List.length_drop] at ih
    rw [List.length_cons]
    omega

theorem blocks_at {block : Nat} {R : List UInt8} {L : List (List UInt8 × List UInt8)} {i : Nat} (h : Co.Blocks block R (L.drop i)) (hi : i < L.length) : ∃ p, L[i]? = some (R.take block, p) ∧ R ≠ [] ∧ Co.PackOf (R.take block) p ∧ Co.Blocks block (R.drop block) (L.drop (i + 1)) := by
  have e1 : L.drop i = L[i] :: L.drop (i + 1) := List.drop_eq_getElem_cons hi
  rw [e1] at h
  generalize hx : L[i] = x at h
  generalize L.drop (i + 1) = M at h ⊢
  cases h with
  | cons hd hp hr => exact ⟨_, by rw [List.getElem?_eq_getElem hi, hx], hd, hp, hr⟩

/-- What Frames must find. -/
def frOf (x : List UInt8 × List UInt8) : Co.Fr := ⟨x.1.length, Co.crcF x.1, x.2⟩

theorem pack_is (S : ByteArray) (p : List UInt8) (w : World) (hs : S.size ≤ 200) (hp : Co.PackOf S.data.toList p) :
    Calls Tryz.prog 41 #[.string S] w fun e w' => e = .returned (.tuple #[.string ⟨p.toArray⟩, .int .i64 0]) ∧ Below w.heap.size w w' := by
  refine (pack_short S w hs).mono ?_
  rintro e w' ⟨q, rfl, hq, hb⟩
  rw [hq.uniq hp]
  exact ⟨rfl, hb⟩

set_option maxHeartbeats 4000000 in
set_option maxRecDepth 100000 in
theorem compressed_fit (S : ByteArray) (block : Nat) (w : World) (hs : S.size ≤ 300) (hb1 : 1 ≤ block) (hb2 : block ≤ 200) :
    Calls Tryz.prog 23 #[.string S, .int .i64 (block : Int)] w fun e w' => e = .returned (.bool true) ∧ Below w.heap.size w w' := by
  have hdS : decide ((300 : Int) < (S.size : Int)) = false := decide_eq_false (by omega)
  go_enter Tryz.func23, Tryz.ntmps23
  go_wp2_with fail
  go_at_call 31
  refine (compress_fit S block w hs hb1 hb2).mono ?_
  rintro e w1 ⟨L, hL, rfl, k1⟩
  obtain ⟨T, hT⟩ : ∃ T : ByteArray, T = ⟨(Co.framedB L).toArray⟩ := ⟨_, rfl⟩
  have hTd : T.data.toList = Co.framedB L := by rw [hT]
  rw [← hT]
  have hfr := Co.frames_framed hb1 hb2 hL (by rw [← Lib.size_eq]; exact hs)
  have hTs : T.size ≤ 4000 := by rw [Lib.size_eq, hTd]; exact hfr.2
  have cF := refFrames_any T w1 (by omega)
  have eF : (L.map fun x => (⟨x.1.length, Co.crcF x.1, x.2⟩ : Co.Fr)) = L.map frOf := rfl
  rw [hTd, hfr.1, eF] at cF
  have hOp : Hid (∀ res, OpenOf T.data.toList res → res = (S.data.toList, 0)) := fun res h => by
    unfold OpenOf at h
    rw [hTd, hfr.1] at h
    have := Co.join_framed hb2 hL [] res h
    simpa using this
  have hlen : L.length ≤ 300 := by
    have := blocks_few hb1 hL
    rw [← Lib.size_eq] at this
    omega
  have hq : ((S.size : Int) + (block : Int) - 1).tdiv (block : Int) = (L.length : Int) := by
    rw [Int.tdiv_eq_ediv_of_nonneg (by omega), blocks_count hb1 hL, ← Lib.size_eq, show (S.size : Int) + (block : Int) - 1 = ((S.size + block - 1 : Nat) : Int) by omega]
    exact (Int.natCast_ediv _ _).symm
  have hq2 : ((S.size : Int) + (block : Int) - 1) / (block : Int) = (L.length : Int) := by
    rw [Int.tdiv_eq_ediv_of_nonneg (by omega)] at hq
    exact hq
  have hbz : ((block : Int) == 0) = false := by rw [beq_eq_false_iff_ne]; omega
  have hbz2 : ¬ (block : Int) = 0 := by omega
  have cF' : Calls Tryz.prog 44 #[.string T] w1 fun e w' => ∃ v, e = .returned (.tuple #[v, .int .i64 0]) ∧ w'.ownsRow w1.heap.size 63 3 v L.length (fcells (L.map frOf)) ∧ Below w1.heap.size w1 w' := by
    rw [List.length_map] at cF
    exact cF
  have CF := hide cF'
  have HL := hide hL
  clear cF'
  clear cF hL hT hTd hfr eF
  go_wp2_with (first
    | (go_at_call 12; go_in)
    | (go_at_call 44; refine CF.out.mono ?_; rintro e w2 ⟨v, rfl, hrow, k2⟩; obtain ⟨ao, lb, cap, rfl, hao⟩ := row_some hrow)
    | (go_at_call 13; refine (num_any _ _).mono ?_; rintro e w' ⟨rfl, hw⟩; rw [hw]; clear hw w'))
  have HA := hide hao
  have kw2 : Below w.heap.size w w2 := k1.trans (k2.mono k1.size)
  clear hao k1 k2 hq hq2
  go_loopw [10, 11] (fun sv iv wr => ∃ (i : Nat) (R : ByteArray), i ≤ L.length ∧ iv = .int .i64 (i : Int) ∧ sv = .string R ∧ R.size ≤ 300 ∧ Below w2.heap.size w2 wr ∧ Hid (Co.Blocks block R.data.toList (L.drop i))) (fun _ iv _ => L.length - (intOf iv).toNat)
  case atStart => exact ⟨0, S, by omega, rfl, rfl, hs, Below.refl _ _, HL⟩
  case round =>
    obtain ⟨i, R, hi, rfl, rfl, hRs, hbx, HB⟩ := hrel
    have kb : Below w.heap.size w wr := kw2.trans (hbx.mono kw2.size)
    by_cases hlt : i < L.length
    · obtain ⟨p, hp, hR0, hpk, hnext⟩ := blocks_at HB.out hlt
      have hf : (L.map frOf)[i]? = some (frOf (R.data.toList.take block, p)) := by rw [List.getElem?_map, hp]; rfl
      have hao := HA.out (by omega)
      subst hao
      obtain ⟨g', cap', hv', hgl, _, q0, q1, q2⟩ := frame_cells hrow (by rw [List.length_map]) hf
      rw [List.length_map] at hv'
      cases hv'
      obtain ⟨n, hn⟩ : ∃ n, n = min block R.size := ⟨_, rfl⟩
      obtain ⟨A, hA⟩ : ∃ A : ByteArray, A = ⟨(R.data.toList.take n).toArray⟩ := ⟨_, rfl⟩
      obtain ⟨B, hB⟩ : ∃ B : ByteArray, B = ⟨(R.data.toList.drop n).toArray⟩ := ⟨_, rfl⟩
      obtain ⟨P, hP⟩ : ∃ P : ByteArray, P = ⟨p.toArray⟩ := ⟨_, rfl⟩
      have et : R.data.toList.take n = R.data.toList.take block := by
        rw [hn, Lib.size_eq]
        by_cases h : block ≤ R.data.toList.length
        · rw [Nat.min_eq_left h]
        · rw [Nat.min_eq_right (by omega), List.take_of_length_le (Nat.le_refl _), List.take_of_length_le (by omega)]
      have ed : R.data.toList.drop n = R.data.toList.drop block := by
        rw [hn, Lib.size_eq]
        by_cases h : block ≤ R.data.toList.length
        · rw [Nat.min_eq_left h]
        · rw [Nat.min_eq_right (by omega), List.drop_of_length_le (Nat.le_refl _), List.drop_of_length_le (by omega)]
      have hAd : A.data.toList = R.data.toList.take block := by rw [hA, ← et]
      have hBd : B.data.toList = R.data.toList.drop block := by rw [hB, ← ed]
      have hAs : A.size = n := by rw [Lib.size_eq, hAd, List.length_take, hn, Lib.size_eq]
      have hBs : B.size ≤ 300 := by rw [Lib.size_eq, hBd, List.length_drop, ← Lib.size_eq]; omega
      have hslA : ∀ W, (Instr.slice 9 (.string R) none (some (.int .i64 (n : Int))) none).run Tryz.prog W = .ok (.string A) W := fun W => by
        rw [hA]
        exact slice_to R n (by omega) W
      have hslB : ∀ W, (Instr.slice 9 (.string R) (some (.int .i64 (n : Int))) none none).run Tryz.prog W = .ok (.string B) W := fun W => by
        rw [hB]
        exact slice_from R n (by omega) W
      have CC := hide (fun W => refCrc_any A W (by omega))
      obtain ⟨x, hx⟩ : ∃ x, x = Co.crcF A.data.toList := ⟨_, rfl⟩
      rw [← hx] at CC
      have cP := fun W => pack_is A p W (by omega) (by rw [hAd]; exact hpk)
      rw [← hP] at cP
      have CP := hide cP
      have s0 : ((frOf (R.data.toList.take block, p)).size : Int) = (n : Int) := by
        show (((R.data.toList.take block).length : Nat) : Int) = _
        rw [← hAd, ← Lib.size_eq, hAs]
      have s1 : ((frOf (R.data.toList.take block, p)).sum : Int) = (x : Int) := by
        show ((Co.crcF (R.data.toList.take block) : Nat) : Int) = _
        rw [← hAd, hx]
      have s2 : strV (frOf (R.data.toList.take block, p)).packed = .string P := by rw [hP]; rfl
      rw [s0] at q0
      rw [s1] at q1
      rw [s2] at q2
      have HN : Hid (Co.Blocks block B.data.toList (L.drop (i + 1))) := by
        show Co.Blocks _ _ _
        rw [hBd]
        exact hnext
      have hmin : n ≤ block ∧ n ≤ R.size ∧ (n = block ∨ n = R.size) := by omega
      have Q := hide (And.intro q0 (And.intro q1 q2))
      clear s0 s1 s2 cP hAd hBd hA hB hP et ed hp hf hR0 hpk hnext HB hx hn hAs q0 q1 q2
      by_cases hbig : R.size < block
      · have hnR : n = R.size := by omega
        subst hnR
        have hdb : decide ((R.size : Int) < (block : Int)) = true := decide_eq_true (by omega)
        clear hmin
        go_wp2_with fail
        go_at_call 45
        refine (CC.out _).mono ?_
        rintro e w' ⟨rfl, hw⟩
        rw [hw]
        clear hw w'
        go_wp2_with fail
        go_at_call 41
        refine (CP.out _).mono ?_
        rintro e w4 ⟨rfl, hb4⟩
        have k4 : Below w2.heap.size w2 w4 := hbx.trans (hb4.mono hbx.size)
        have c0 := (k4.cell (p := ⟨lb, i * 3, none⟩) hgl).trans Q.out.1
        have c1 := (k4.cell (p := ⟨lb, i * 3 + 1, none⟩) hgl).trans Q.out.2.1
        have c2 := (k4.cell (p := ⟨lb, i * 3 + 2, none⟩) hgl).trans Q.out.2.2
        clear hb4 hbx
        go_wp2
        go_roundw
        case rel => exact ⟨i + 1, B, by omega, by go_num, rfl, hBs, k4, HN⟩
        case measure => simp [intOf]; omega
      · have hnR : n = block := by omega
        subst hnR
        have hdb : decide ((R.size : Int) < (n : Int)) = false := decide_eq_false (by omega)
        clear hmin
        go_wp2_with fail
        go_at_call 45
        refine (CC.out _).mono ?_
        rintro e w' ⟨rfl, hw⟩
        rw [hw]
        clear hw w'
        go_wp2_with fail
        go_at_call 41
        refine (CP.out _).mono ?_
        rintro e w4 ⟨rfl, hb4⟩
        have k4 : Below w2.heap.size w2 w4 := hbx.trans (hb4.mono hbx.size)
        have c0 := (k4.cell (p := ⟨lb, i * 3, none⟩) hgl).trans Q.out.1
        have c1 := (k4.cell (p := ⟨lb, i * 3 + 1, none⟩) hgl).trans Q.out.2.1
        have c2 := (k4.cell (p := ⟨lb, i * 3 + 2, none⟩) hgl).trans Q.out.2.2
        clear hb4 hbx
        go_wp2
        go_roundw
        case rel => exact ⟨i + 1, B, by omega, by go_num, rfl, hBs, k4, HN⟩
        case measure => simp [intOf]; omega
    · obtain rfl : i = L.length := by omega
      have CD := hide (decompress_any T wr (by omega))
      go_wp2_with fail
      go_at_call 24
      refine CD.out.mono ?_
      rintro e w5 ⟨hb5, res, hres, rfl⟩
      have := hOp.out res hres
      subst this
      have k5 : Below w.heap.size w w5 := kb.trans (hb5.mono kb.size)
      clear hres
      go_wp2_with (go_at_call 13; refine (num_any _ _).mono ?_; rintro e w' ⟨rfl, hw⟩; rw [hw]; clear hw w')
      go_ret
      exact ⟨rfl, k5⟩
end Go.Proofs.YtkiindkoiomieaaGreatDoor
end

section
/-
  P8, P9: the walks of compressed and Texts.
-/
namespace Go.Proofs.YtkiindkoiomieaaGreatDoor
open Go.RowKit

set_option maxHeartbeats 1000000 in
set_option maxRecDepth 100000 in
theorem law_compressed (S : ByteArray) (block : Int) (w : World) (hm : S.size ≤ maxLen) :
    Calls Tryz.prog 23 #[.string S, .int .i64 block] w fun e w' => e = .returned (.bool true) ∧ Below w.heap.size w w' := by
  unfold maxLen at hm
  by_cases hs : S.size ≤ 300
  · by_cases hb : block < 1 ∨ 200 < block
    · have CC := hide (compress_arg S block w hs hb)
      have hdS : decide ((300 : Int) < (S.size : Int)) = false := decide_eq_false (by omega)
      go_enter Tryz.func23, Tryz.ntmps23
      go_wp2_with fail
      go_at_call 31
      refine CC.out.mono ?_
      rintro e w1 ⟨rfl, k1⟩
      by_cases h1 : block < 1
      · go_wp2_with (first
          | (go_at_call 12; go_in)
          | (go_at_call 13; refine (num_any _ _).mono ?_; rintro e w' ⟨rfl, hw⟩; rw [hw]; clear hw w'))
        go_ret
        exact ⟨rfl, k1⟩
      · have h2 : 200 < block := by omega
        go_wp2_with (first
          | (go_at_call 12; go_in)
          | (go_at_call 13; refine (num_any _ _).mono ?_; rintro e w' ⟨rfl, hw⟩; rw [hw]; clear hw w'))
        go_ret
        exact ⟨rfl, k1⟩
    · obtain ⟨n, rfl⟩ : ∃ n : Nat, block = (n : Int) := ⟨block.toNat, by omega⟩
      exact compressed_fit S n w hs (by omega) (by omega)
  · have CC := hide (compress_long S block w (by omega) hm)
    have hdS : decide ((300 : Int) < (S.size : Int)) = true := decide_eq_true (by omega)
    go_enter Tryz.func23, Tryz.ntmps23
    go_wp2_with fail
    go_at_call 31
    refine CC.out.mono ?_
    rintro e w1 ⟨rfl, k1⟩
    go_wp2_with (first
      | (go_at_call 12; go_in)
      | (go_at_call 13; refine (num_any _ _).mono ?_; rintro e w' ⟨rfl, hw⟩; rw [hw]; clear hw w'))
    go_ret
    exact ⟨rfl, k1⟩

set_option maxHeartbeats 1000000 in
set_option maxRecDepth 100000 in
theorem texts_any (b off len cap : Nat) (w : World) (hlen : len ≤ 9223372036854775807) (hb : b < w.heap.size)
    (hc : ∀ k, k < len → ∃ (na : Int) (S T : ByteArray), w.cell? ⟨b, off + k * 5, none⟩ = some (.int .i64 na) ∧ w.cell? ⟨b, off + k * 5 + 2, none⟩ = some (.string S) ∧ w.cell? ⟨b, off + k * 5 + 3, none⟩ = some (.string T) ∧ S.size ≤ maxLen ∧ T.size ≤ maxLen) :
    Calls Tryz.prog 8 #[.slice (some ⟨b, off, none⟩) len cap] w fun e w' => e = .returned (.bool true) ∧ Below w.heap.size w w' := by
  have HC := hide hc
  clear hc
  go_enter Tryz.func8, Tryz.ntmps8
  go_wp2
  go_loopw [3] (fun i wr => ∃ k : Nat, k ≤ len ∧ i = .int .i64 k ∧ Below w.heap.size w wr) (fun i _ => len - (intOf i).toNat)
  case atStart => exact ⟨0, Nat.zero_le _, rfl, Below.refl _ _⟩
  case round =>
    obtain ⟨k, hk, rfl, hbx⟩ := hrel
    by_cases hlt : k < len
    · by_cases hbig : (k : Int) < 1152921504606846976
      · have hd : decide ((k : Int) < 1152921504606846976) = true := decide_eq_true hbig
        clear hbig
        obtain ⟨na, S, T, gA, gS, gT, mS, mT⟩ := HC.out k hlt
        have hcA : wr.cell? ⟨b, off + k * 5, none⟩ = some (.int .i64 na) := (hbx.cell (p := ⟨b, off + k * 5, none⟩) hb).trans gA
        have hcS : wr.cell? ⟨b, off + k * 5 + 2, none⟩ = some (.string S) := (hbx.cell (p := ⟨b, off + k * 5 + 2, none⟩) hb).trans gS
        have cW := hide (fun W => law_compressed S na W mS)
        have hmT : T.size ≤ 9223372036854775807 := by unfold maxLen at mT; omega
        have HT := hide gT
        clear gA gS gT
        go_wp2_with fail
        go_region_with ((go_at_call 23; refine ((unhide cW) _).mono ?_; rintro e w2 ⟨rfl, hb2⟩))
        all_goals (
          have k2 : Below w.heap.size w w2 := hbx.drew.trans (hb2.mono hbx.size)
          have hcT : w2.cell? ⟨b, off + k * 5 + 3, none⟩ = some (.string T) := (k2.cell (p := ⟨b, off + k * 5 + 3, none⟩) hb).trans HT.out
          clear hb2 hbx hcA hcS cW
          go_wp2_with fail
          go_at_call 24
          refine (decompress_any T w2 hmT).mono ?_
          rintro e w3 ⟨hb3, res, hres, rfl⟩
          have k3 : Below w.heap.size w w3 := k2.trans (hb3.mono k2.size)
          have hcT3 : w3.cell? ⟨b, off + k * 5 + 3, none⟩ = some (.string T) := (k3.cell (p := ⟨b, off + k * 5 + 3, none⟩) hb).trans HT.out
          clear hb3 k2 hcT
          go_wp2_with fail
          go_at_call 25
          refine (unpacked_any T w3 hmT).mono ?_
          rintro e w4 ⟨hb4, res2, hres2, rfl⟩
          have k4 : Below w.heap.size w w4 := k3.trans (hb4.mono k3.size)
          have := Co.Join.uniq hres hres2
          subst this
          obtain ⟨D, hD⟩ : ∃ D : ByteArray, D = ⟨res.1.toArray⟩ := ⟨_, rfl⟩
          obtain ⟨c, hcc⟩ : ∃ c : Int, c = (res.2 : Int) := ⟨_, rfl⟩
          rw [← hD, ← hcc]
          clear hD hcc hres hres2 hb4 k3 hcT3
          go_wp2_with (go_at_call 13; refine (num_any _ _).mono ?_; rintro e w' ⟨rfl, hw⟩; rw [hw]; clear hw w')
          go_roundw
          case rel => exact ⟨k + 1, by omega, by go_num, k4⟩
          case measure => simp [intOf]; omega)
      · have hd : decide ((k : Int) < 1152921504606846976) = false := decide_eq_false hbig
        clear hbig
        go_wp2
        go_ret
        exact ⟨rfl, hbx⟩
    · go_wp2
      go_ret
      exact ⟨rfl, hbx⟩

set_option maxHeartbeats 400000 in
theorem texts_zero (ao : Option Addr) (cap : Nat) (w : World) :
    Calls Tryz.prog 8 #[.slice ao 0 cap] w fun e w' => e = .returned (.bool true) ∧ Below w.heap.size w w' := by
  go_enter Tryz.func8, Tryz.ntmps8
  go_wp2
  refine wp_loop_rounds 1 ?_
  rw [rounds_succ]
  go_wp2
  go_ret
  exact ⟨rfl, Below.refl _ _⟩
end Go.Proofs.YtkiindkoiomieaaGreatDoor
end

section
/-
  P2 to P9 together: the walk of All.
-/
namespace Go.Proofs.YtkiindkoiomieaaGreatDoor
open Go.RowKit

/-- The steps of a script, as they lie in memory. -/
def StepsAt (w : World) (b off len : Nat) : Prop := ∀ k, k < len → ∃ (na nb : Int) (S T : ByteArray) (la : Option Addr) (ll lc : Nat) (zs : List Int) (lb lo : Nat), w.cell? ⟨b, off + k * 5, none⟩ = some (.int .i64 na) ∧ w.cell? ⟨b, off + k * 5 + 1, none⟩ = some (.int .i64 nb) ∧
  w.cell? ⟨b, off + k * 5 + 2, none⟩ = some (.string S) ∧ w.cell? ⟨b, off + k * 5 + 3, none⟩ = some (.string T) ∧ w.cell? ⟨b, off + k * 5 + 4, none⟩ = some (.slice la ll lc) ∧ S.size ≤ maxLen ∧ T.size ≤ maxLen ∧ ll * 8 ≤ 140737488351232 ∧ Ints w la ll zs lb lo

def StepsOk (ao : Option Addr) (len : Nat) (w : World) : Prop := len = 0 ∨ ∃ b off, ao = some ⟨b, off, none⟩ ∧ b < w.heap.size ∧ len ≤ 9223372036854775807 ∧ StepsAt w b off len

theorem StepsOk.keep {ao : Option Addr} {len : Nat} {w w' : World} (h : StepsOk ao len w) (hb : Below w.heap.size w w') : StepsOk ao len w' := by
  rcases h with h | ⟨b, off, h1, h2, h3, h4⟩
  · exact .inl h
  · refine .inr ⟨b, off, h1, Nat.lt_of_lt_of_le h2 hb.size, h3, fun k hk => ?_⟩
    obtain ⟨na, nb, S, T, la, ll, lc, zs, lb, lo, c0, c1, c2, c3, c4, s1, s2, s3, hi⟩ := h4 k hk
    refine ⟨na, nb, S, T, la, ll, lc, zs, lb, lo, (hb.cell (p := ⟨b, _, none⟩) h2).trans c0, (hb.cell (p := ⟨b, _, none⟩) h2).trans c1, (hb.cell (p := ⟨b, _, none⟩) h2).trans c2, (hb.cell (p := ⟨b, _, none⟩) h2).trans c3, (hb.cell (p := ⟨b, _, none⟩) h2).trans c4, s1, s2, s3, hi.hz, fun h => ?_, fun j z hj => ?_⟩
    · obtain ⟨q1, q2⟩ := hi.hao h
      exact ⟨q1, Nat.lt_of_lt_of_le q2 hb.size⟩
    · exact (hb.cell (p := ⟨lb, _, none⟩) (hi.lt hj)).trans (hi.hc j z hj)

theorem steps_S {w : World} {b off len : Nat} (h : StepsAt w b off len) : ∃ S : Nat → ByteArray, ∀ k, k < len → w.cell? ⟨b, off + k * 5 + 2, none⟩ = some (.string (S k)) ∧ (S k).size ≤ maxLen := by
  have hS : ∀ k, ∃ s : ByteArray, k < len → w.cell? ⟨b, off + k * 5 + 2, none⟩ = some (.string s) ∧ s.size ≤ maxLen := fun k => by
    by_cases hk : k < len
    · obtain ⟨_, _, S, _, _, _, _, _, _, _, _, _, c2, _, _, s1, _⟩ := h k hk
      exact ⟨S, fun _ => ⟨c2, s1⟩⟩
    · exact ⟨⟨#[]⟩, fun h => absurd h hk⟩
  exact ⟨fun k => (hS k).choose, fun k hk => (hS k).choose_spec hk⟩

theorem steps_T {w : World} {b off len : Nat} (h : StepsAt w b off len) : ∀ k, k < len → ∃ (na : Int) (S T : ByteArray), w.cell? ⟨b, off + k * 5, none⟩ = some (.int .i64 na) ∧ w.cell? ⟨b, off + k * 5 + 2, none⟩ = some (.string S) ∧ w.cell? ⟨b, off + k * 5 + 3, none⟩ = some (.string T) ∧ S.size ≤ maxLen ∧ T.size ≤ maxLen := fun k hk => by
  obtain ⟨na, _, S, T, _, _, _, _, _, _, c0, _, c2, c3, _, s1, s2, _⟩ := h k hk
  exact ⟨na, S, T, c0, c2, c3, s1, s2⟩

theorem cuts_ok {ao : Option Addr} {len cap : Nat} {w : World} (h : StepsOk ao len w) :
    Calls Tryz.prog 26 #[.slice ao len cap] w fun e w' => e = .returned (.bool true) ∧ Below w.heap.size w w' := by
  rcases h with rfl | ⟨b, off, rfl, h2, h3, h4⟩
  · exact cuts_zero _ _ _
  · obtain ⟨S, hS⟩ := steps_S h4
    exact cuts_any b off len cap S w h3 h2 hS

theorem turns_ok {ao : Option Addr} {len cap : Nat} {w : World} (h : StepsOk ao len w) :
    Calls Tryz.prog 27 #[.slice ao len cap] w fun e w' => e = .returned (.bool true) ∧ Below w.heap.size w w' := by
  rcases h with rfl | ⟨b, off, rfl, h2, h3, h4⟩
  · exact turns_zero _ _ _
  · obtain ⟨S, hS⟩ := steps_S h4
    exact turns_any b off len cap S w h3 h2 hS

theorem moves_ok {ao : Option Addr} {len cap : Nat} {w : World} (h : StepsOk ao len w) :
    Calls Tryz.prog 28 #[.slice ao len cap] w fun e w' => e = .returned (.bool true) ∧ Below w.heap.size w w' := by
  rcases h with rfl | ⟨b, off, rfl, h2, h3, h4⟩
  · exact moves_zero _ _ _
  · obtain ⟨S, hS⟩ := steps_S h4
    exact moves_any b off len cap S w h3 h2 hS

theorem gammas_ok {ao : Option Addr} {len cap : Nat} {w : World} (h : StepsOk ao len w) :
    Calls Tryz.prog 29 #[.slice ao len cap] w fun e w' => e = .returned (.bool true) ∧ Below w.heap.size w w' := by
  rcases h with rfl | ⟨b, off, rfl, h2, h3, h4⟩
  · exact gammas_zero _ _ _
  · refine gammas_any b off len cap w h3 h2 fun k hk => ?_
    obtain ⟨na, nb, S, T, la, ll, lc, zs, lb, lo, c0, c1, c2, c3, c4, _, s2, s3, hi⟩ := h4 k hk
    exact ⟨na, nb, S, T, la, ll, lc, zs, lb, lo, c0, c1, c2, c3, c4, by unfold maxLen at s2; omega, s3, hi⟩

theorem packs_ok {ao : Option Addr} {len cap : Nat} {w : World} (h : StepsOk ao len w) :
    Calls Tryz.prog 7 #[.slice ao len cap] w fun e w' => e = .returned (.bool true) ∧ Below w.heap.size w w' := by
  rcases h with rfl | ⟨b, off, rfl, h2, h3, h4⟩
  · exact packs_zero _ _ _
  · exact packs_any b off len cap w h3 h2 (steps_T h4)

theorem texts_ok {ao : Option Addr} {len cap : Nat} {w : World} (h : StepsOk ao len w) :
    Calls Tryz.prog 8 #[.slice ao len cap] w fun e w' => e = .returned (.bool true) ∧ Below w.heap.size w w' := by
  rcases h with rfl | ⟨b, off, rfl, h2, h3, h4⟩
  · exact texts_zero _ _ _
  · exact texts_any b off len cap w h3 h2 (steps_T h4)

set_option maxHeartbeats 1000000 in
set_option maxRecDepth 100000 in
theorem all_ok {ao : Option Addr} {len cap : Nat} {w : World} (h : StepsOk ao len w) :
    Calls Tryz.prog 10 #[.slice ao len cap] w fun e w' => e = .returned (.bool true) ∧ Below w.heap.size w w' := by
  have H := hide h
  clear h
  go_enter Tryz.func10, Tryz.ntmps10
  go_wp2_with fail
  go_at_call 26
  refine (cuts_ok H.out).mono ?_
  rintro e w1 ⟨rfl, k1⟩
  go_wp2_with fail
  go_at_call 27
  refine (turns_ok (H.out.keep k1)).mono ?_
  rintro e w2 ⟨rfl, b2⟩
  have k2 : Below w.heap.size w w2 := k1.trans (b2.mono k1.size)
  clear k1 b2
  go_wp2_with fail
  go_at_call 28
  refine (moves_ok (H.out.keep k2)).mono ?_
  rintro e w3 ⟨rfl, b3⟩
  have k3 : Below w.heap.size w w3 := k2.trans (b3.mono k2.size)
  clear k2 b3
  go_wp2_with fail
  go_at_call 29
  refine (gammas_ok (H.out.keep k3)).mono ?_
  rintro e w4 ⟨rfl, b4⟩
  have k4 : Below w.heap.size w w4 := k3.trans (b4.mono k3.size)
  clear k3 b4
  go_wp2_with fail
  go_at_call 7
  refine (packs_ok (H.out.keep k4)).mono ?_
  rintro e w5 ⟨rfl, b5⟩
  have k5 : Below w.heap.size w w5 := k4.trans (b5.mono k4.size)
  clear k4 b5
  go_wp2_with fail
  go_at_call 8
  refine (texts_ok (H.out.keep k5)).mono ?_
  rintro e w6 ⟨rfl, b6⟩
  have k6 : Below w.heap.size w w6 := k5.trans (b6.mono k5.size)
  clear k5 b6
  go_wp2
  go_ret
  exact ⟨rfl, k6⟩
end Go.Proofs.YtkiindkoiomieaaGreatDoor
end

