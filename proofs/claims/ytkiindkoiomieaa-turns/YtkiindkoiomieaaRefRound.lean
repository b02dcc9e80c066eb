/-
  P4: the walks of twineref's letter and ahead.
-/
import Derived.Test.YtkiindkoiomieaaRefWords
namespace Go.Proofs.Ytkiindkoiomieaa
open Go.RowKit

theorem bt_lt (l : List UInt8) (k : Nat) : Duv.bt l k < 256 := by
  unfold Duv.bt
  exact (l[k]?.getD 0).toNat_lt

theorem wrap_nat (x : Nat) (h : x ≤ 100000) : IntKind.i64.wrap (x : Int) = x := by
  simp [IntKind.wrap, IntKind.bits, IntKind.signed]
  omega

theorem rem_in (i k n : Nat) (h : i + k ≤ 100000) : (IntKind.i64.wrap ((i : Int) + (k : Int))).tmod (n : Int) = (((i + k) % n : Nat) : Int) := by
  rw [← Int.natCast_add, wrap_nat _ h]
  exact (Int.ofNat_tmod _ _).symm

set_option maxHeartbeats 400000 in
theorem letter_any (u : ByteArray) (i k : Nat) (w : World) (h0 : 0 < u.size) (h1 : u.size ≤ 300) (hi : i ≤ 300) (hk : k ≤ 700) :
    Calls Try.prog 55 #[.agg #[.string u, .int .i64 i], .int .i64 k] w fun e w' => e = .returned (.int .u8 (Tur.rd u.data.toList i k : Nat)) ∧ Below w.heap.size w w' := by
  obtain ⟨r, hr⟩ : ∃ r, r = (i + k) % u.size := ⟨_, rfl⟩
  have hm : r < u.size := by rw [hr]; exact Nat.mod_lt _ h0
  have hrem : (IntKind.i64.wrap ((i : Int) + (k : Int))).tmod (u.size : Int) = (r : Int) := by rw [hr]; exact rem_in i k _ (by omega)
  have hz : ¬ ((u.size : Int) = 0) := by omega
  have hz2 : ¬ (u.size = 0) := by omega
  have hdiv : ∀ W, Sem.run Try.prog (Op.intDiv .rem .i64 (IntKind.i64.wrap ((i : Int) + (k : Int))) (u.size : Int)) W = .ok (.int .i64 (r : Int)) W := fun W => by
    unfold Op.intDiv
    rw [if_neg hz, hrem]
    rfl
  have hrd : Tur.rd u.data.toList i k = u[r].toNat := by
    rw [byte_bt u r hm, Tur.rd, hr, ← Lib.size_eq]
  rw [hrd]
  clear hrd hr
  go_enter Try.func55, Try.ntmps55
  go_wp2_with fail
  go_quiet (fail)
  go_wp2
  go_ret
  exact ⟨rfl, below_drewN ((Below.refl _ _).alloc (Nat.le_refl _) _) _⟩

/-- A place of a word, as it stands in memory. -/
def rv (p : List UInt8 × Nat) : Value := .agg #[strV p.1, .int .i64 p.2]

theorem heap_lt0 {w : World} {g : Nat} {o : Obj} (h : w.heap[g]? = some o) : g < w.heap.size := (Array.getElem?_eq_some_iff.1 h).1

theorem cell_here {w : World} {g : Nat} {cs : Array Value} {t : TypeId} (h : w.heap[g]? = some (.cells cs t (0, 0))) {j : Nat} {v : Value} (hc : cs[j]? = some v) : w.cell? ⟨g, j, none⟩ = some v := by
  rw [cell_of_row w g j _ t _ h]
  exact hc

theorem strV_size (l : List UInt8) : (⟨l.toArray⟩ : ByteArray).size = l.length := by rw [Lib.size_eq]

theorem agree_next {f g : Nat → Nat} {k : Nat} (h : ∀ j, j < k → f j = g j) (e : f k = g k) : ∀ j, j < k + 1 → f j = g j := fun j hj => by
  by_cases hjk : j = k
  · subst hjk; exact e
  · exact h j (by omega)

set_option maxHeartbeats 1000000 in
theorem ahead_any (p q : List UInt8 × Nat) (w : World) (hp0 : p.2 < p.1.length) (hp1 : p.1.length ≤ 300) (hq0 : q.2 < q.1.length) (hq1 : q.1.length ≤ 300) (b : Bool) (hb : b = true ↔ Tur.Lt (Tur.rd p.1 p.2) (Tur.rd q.1 q.2)) :
    Calls Try.prog 37 #[rv p, rv q] w fun e w' => e = .returned (.bool b) ∧ Below w.heap.size w w' := by
  obtain ⟨p, i⟩ := p
  obtain ⟨q, j⟩ := q
  simp only at hp0 hp1 hq0 hq1 hb
  obtain ⟨u, hu⟩ : ∃ u : ByteArray, u = ⟨p.toArray⟩ := ⟨_, rfl⟩
  obtain ⟨v, hv⟩ : ∃ v : ByteArray, v = ⟨q.toArray⟩ := ⟨_, rfl⟩
  have hul : u.data.toList = p := by rw [hu]
  have hvl : v.data.toList = q := by rw [hv]
  have hus : u.size = p.length := by rw [hu, strV_size]
  have hvs : v.size = q.length := by rw [hv, strV_size]
  unfold rv strV
  simp only
  rw [← hu, ← hv]
  rw [← hus] at hp0 hp1
  rw [← hvs] at hq0 hq1
  have cU := fun k W hk => letter_any u i k W (by omega) hp1 (by omega) hk
  have cV := fun k W hk => letter_any v j k W (by omega) hq1 (by omega) hk
  rw [hul] at cU
  rw [hvl] at cV
  have HB := hide hb
  have P1 := hide (Tur.rd_per p i)
  have P2 := hide (Tur.rd_per q j)
  rw [← hus] at P1
  rw [← hvs] at P2
  have L1 : Hid (∀ k, Tur.rd p i k < 256) := fun k => bt_lt _ _
  have L2 : Hid (∀ k, Tur.rd q j k < 256) := fun k => bt_lt _ _
  clear hb hu hv hul hvl hus hvs
  generalize Tur.rd p i = F at cU HB P1 L1
  generalize Tur.rd q j = G at cV HB P2 L2
  have CU := hide cU
  have CV := hide cV
  clear cU cV
  go_enter Try.func37, Try.ntmps37
  go_wp2
  go_loopw [5] (fun kv wr => ∃ k : Nat, k ≤ u.size + v.size ∧ kv = .int .i64 k ∧ Hid (wr.heap[w.heap.size]? = some (.cells #[.string u, .int .i64 i] 61 (0, 0))) ∧ Hid (wr.heap[w.heap.size + 1]? = some (.cells #[.string v, .int .i64 j] 61 (0, 0))) ∧ Below w.heap.size w wr ∧ Hid (∀ x, x < k → F x = G x)) (fun kv _ => u.size + v.size - (intOf kv).toNat)
  case atStart =>
    refine ⟨0, by omega, rfl, ?_, ?_, ((Below.refl _ _).alloc (Nat.le_refl _) _).alloc (by simp) _, fun x hx => by omega⟩
    · show _ = _
      rw [Lib.alloc_old _ _ _ (by simp)]
      exact heap_alloc_new _ _
    · show _ = _
      have := heap_alloc_new (w.alloc (.cells #[.string u, .int .i64 i] 61)) (.cells #[.string v, .int .i64 j] 61)
      simpa using this
  case round =>
    obtain ⟨k, hk, rfl, H1, H2, hbx, HA⟩ := hrel
    have c1 := cell_here H1.out (j := 0) (v := .string u) rfl
    have c2 := cell_here H1.out (j := 1) (v := .int .i64 i) rfl
    have c3 := cell_here H2.out (j := 0) (v := .string v) rfl
    have c4 := cell_here H2.out (j := 1) (v := .int .i64 j) rfl
    by_cases hlt : k < u.size + v.size
    · have s2 := heap_lt0 H2.out
      have ha := HA.out
      have f1 := L1.out k
      have g1 := L2.out k
      obtain ⟨f, hf⟩ : ∃ f, f = F k := ⟨_, rfl⟩
      obtain ⟨g, hg⟩ : ∃ g, g = G k := ⟨_, rfl⟩
      rw [← hf] at f1
      rw [← hg] at g1
      have cU := fun W => CU.out k W (by omega)
      have cV := fun W => CV.out k W (by omega)
      rw [← hf] at cU
      rw [← hg] at cV
      have CU1 := hide cU
      have CV1 := hide cV
      have HF := hide hf
      have HGG := hide hg
      have HAA := hide ha
      clear ha hf hg cU cV
      go_wp2_with fail
      go_at_call 55
      refine (CU1.out _).mono ?_
      rintro e w1 ⟨rfl, hb1⟩
      have c3' := (hb1.cell (p := ⟨w.heap.size + 1, 0, none⟩) s2).trans c3
      have c4' := (hb1.cell (p := ⟨w.heap.size + 1, 1, none⟩) s2).trans c4
      clear c1 c2 c3 c4
      go_wp2_with fail
      go_at_call 55
      refine (CV1.out _).mono ?_
      rintro e w2 ⟨rfl, hb2⟩
      clear c3' c4'
      have hbx1 := hbx.trans (hb1.mono hbx.size)
      have hbx2 := hbx1.trans (hb2.mono hbx1.size)
      by_cases hne : f = g
      · have t1 : ((f : Int) != (g : Int)) = false := by simp [hne]
        go_wp2
        go_roundw
        case rel =>
          refine ⟨k + 1, by omega, by go_num, ?_, ?_, hbx2, agree_next HAA.out (by rw [← HF.out, ← HGG.out]; exact hne)⟩
          · apply hide
            rw [hb2.block _ (by have := hb1.size; omega), hb1.block _ (by omega)]
            exact H1.out
          · apply hide
            rw [hb2.block _ (by have := hb1.size; omega), hb1.block _ (by omega)]
            exact H2.out
        case measure => simp [intOf]; omega
      · have t1 : ((f : Int) != (g : Int)) = true := by simp; omega
        by_cases hfg : f < g
        · go_wp2
          go_ret
          have hbt : b = true := HB.out.2 ⟨k, HAA.out, by rw [← HF.out, ← HGG.out]; exact hfg⟩
          refine ⟨?_, hbx2⟩
          rw [hbt]
          simp
        · go_wp2
          go_ret
          have hbt : b = false := by
            cases hbb : b with
            | false => rfl
            | true =>
              have hgt : Tur.Lt G F := ⟨k, fun x hx => (HAA.out x hx).symm, by rw [← HF.out, ← HGG.out]; omega⟩
              exact absurd (HB.out.1 hbb) hgt.asymm
          refine ⟨?_, hbx2⟩
          rw [hbt]
          simp
    · go_wp2
      go_ret
      have he : F = G := Tur.same_of (by omega) (by omega) P1.out P2.out (fun x hx => HA.out x (by omega))
      have hbt : b = false := by
        cases hbb : b with
        | false => rfl
        | true =>
          have := HB.out.1 hbb
          rw [he] at this
          exact absurd this (Tur.Lt.irrefl _)
      exact ⟨by rw [hbt]; rfl, hbx⟩
end Go.Proofs.Ytkiindkoiomieaa
