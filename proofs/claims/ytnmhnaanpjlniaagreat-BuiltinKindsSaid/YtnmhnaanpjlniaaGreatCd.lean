import Derived.Test.YtnmhnaanpjlniaaGreatEe
import Derived.Test.YtnmhnaanpjlniaaGreatAk
import Derived.Defers
import Derived.Recover
/-
  Layer 4: a unification's visits and walked terms.
-/
namespace Go.Proofs.YtnmhnaanpjlniaaGreat
open Go.RowKit

/-- a unification in memory: where its substitution is, and how many visits there were -/
structure UAt (KB S : Nat) (σ : Sb) (n m : Nat) (w : World) : Prop where
  cell : w.heap[KB]? = some (.cells #[.pointer (some ⟨S, 0, none⟩), .int .i64 (m : Nat)] 156 (0, 0))
  sub : SubAt S σ n w
  ne : KB ≠ S

theorem UAt.c0 {KB S : Nat} {σ : Sb} {n m : Nat} {w : World} (h : UAt KB S σ n m w) : w.cell? ⟨KB, 0, none⟩ = some (.pointer (some ⟨S, 0, none⟩)) := by simp [World.cell?, h.cell]
theorem UAt.c1 {KB S : Nat} {σ : Sb} {n m : Nat} {w : World} (h : UAt KB S σ n m w) : w.cell? ⟨KB, 1, none⟩ = some (.int .i64 (m : Nat)) := by simp [World.cell?, h.cell]
theorem UAt.f1 {KB S : Nat} {σ : Sb} {n m : Nat} {w : World} (h : UAt KB S σ n m w) : w.frozen? ⟨KB, 1, none⟩ = false := by simp [World.frozen?, h.cell]
theorem UAt.lt {KB S : Nat} {σ : Sb} {n m : Nat} {w : World} (h : UAt KB S σ n m w) : KB < w.heap.size := (Array.getElem?_eq_some_iff.1 h.cell).1
theorem UAt.below {KB S : Nat} {σ : Sb} {n m : Nat} {w w' : World} (h : UAt KB S σ n m w) (hB : Below w.heap.size w w') : UAt KB S σ n m w' := ⟨(hB.block KB h.lt).trans h.cell, h.sub.below hB, h.ne⟩

/-- a small block turns -/
theorem SubAt.but {S KB : Nat} {σ : Sb} {n : Nat} {w w' : World} (h : SubAt S σ n w) {cs : Array Value} {t : TypeId} {fr : Nat × Nat} (hK : w.heap[KB]? = some (.cells cs t fr)) (hz : cs.size < 4) (hne : S ≠ KB) (hg : w.grownBy w' (some KB)) : SubAt S σ n w' := by
  obtain ⟨p, hh, h1, h3, h4, h5⟩ := h.cells
  exact ⟨⟨p, hh, (hg.block S h.lt (fun e => hne (by cases e; rfl))).trans h1, h3, h4.grown hg hK (by omega), h5⟩, h.ends, fun v x hx => ⟨(h.at_ v x hx).1.small hg hK hz, (h.at_ v x hx).2⟩⟩

/-- one visit more -/
def seen (KB m : Nat) (w : World) : World := w.setCell ⟨KB, 1, none⟩ (.int .i64 ((m : Int) + 1))

theorem seen_grown (KB m : Nat) (w : World) : w.grownBy (seen KB m w) (some KB) := grown_set w KB 1 _

theorem UAt.seen {KB S : Nat} {σ : Sb} {n m : Nat} {w : World} (h : UAt KB S σ n m w) : UAt KB S σ n (m + 1) (Go.Proofs.YtnmhnaanpjlniaaGreat.seen KB m w) := by
  refine ⟨?_, h.sub.but h.cell (by simp) (fun e => h.ne e.symm) (seen_grown KB m w), h.ne⟩
  simp only [Go.Proofs.YtnmhnaanpjlniaaGreat.seen, World.setCell, Array.getElem?_modify, if_pos, h.cell]
  rfl

def fullP : List PanicEntry := [{ v := .iface 176 (.agg #[]), recovered := false }]

set_option maxHeartbeats 1000000 in
theorem visit_go (KB S : Nat) (σ : Sb) (n m : Nat) (w : World) (h : UAt KB S σ n m w) (hm : m < 4096) :
    Calls Tryz.prog 141 #[.pointer (some ⟨KB, 0, none⟩)] w fun e w' => e = .returned (.tuple #[]) ∧ w' = seen KB m w := by
  have c0 := h.c0
  have c1 := h.c1
  have f1 := h.f1
  have hlt : ¬ ((m : Int) + 1 > 4096) := by omega
  have hlt2 : m ≤ 1000000 := by omega
  clear hm h
  go_enter Tryz.func141, Tryz.ntmps141
  go_wp2
  go_end0
  exact ⟨rfl, rfl⟩

set_option maxHeartbeats 1000000 in
theorem visit_full (KB S : Nat) (σ : Sb) (n m : Nat) (w : World) (h : UAt KB S σ n m w) (hm : m = 4096) :
    Calls Tryz.prog 141 #[.pointer (some ⟨KB, 0, none⟩)] w fun e w' => e = .panicked fullP ∧ w' = seen KB m w := by
  have c0 := h.c0
  have c1 := h.c1
  have f1 := h.f1
  have hlt : (m : Int) + 1 > 4096 := by omega
  have hlt2 : m ≤ 1000000 := by omega
  clear hm h
  go_enter Tryz.func141, Tryz.ntmps141
  go_wp2
  exact ⟨rfl, rfl, rfl⟩

/-- a walked term, or the term itself -/
def WOf (P : Nat → Prop) (x : Nd) (v : Value) (w : World) : Prop := ∃ us q d, v = tv x.k x.s x.n q us.len d ∧ Ts.AtP P w q us ∧ Ts.twin us x.kids ∧ us.ok ∧ (us.len ≤ d ∧ d ≤ 9223372036854775807) ∧ (q = none → d = 0)

theorem WOf.below {P : Nat → Prop} {x : Nd} {v : Value} {w w' : World} (h : WOf P x v w) (hB : Below w.heap.size w w') : WOf P x v w' := by
  obtain ⟨us, q, d, h1, h2, h3⟩ := h
  exact ⟨us, q, d, h1, h2.stay fun b _ hb => hB.block b hb, h3⟩

theorem CloneOf.bel {x : Nd} {B : Nat} {v : Value} {w w' : World} (h : CloneOf x B v w) (hB : Below w.heap.size w w') : CloneOf x B v w' := by
  obtain ⟨us, q, d, h1, h2, h3⟩ := h
  exact ⟨us, q, d, h1, AtB_below h2 hB, h3⟩
theorem CloneOf.mon {x : Nd} {B B' : Nat} {v : Value} {w : World} (h : CloneOf x B v w) (hBB : B' ≤ B) : CloneOf x B' v w := by
  obtain ⟨us, q, d, h1, h2, h3⟩ := h
  exact ⟨us, q, d, h1, AtB_mono h2 hBB, h3⟩

set_option maxRecDepth 10000 in
set_option maxHeartbeats 1000000 in
theorem uwalk_any (KB S : Nat) (σ : Sb) (n m : Nat) (w : World) (h : UAt KB S σ n m w) (P : Nat → Prop) (hP : ∀ b, w.heap.size ≤ b → P b) (t : Nd) (hok : t.ok) (hat : Ts.AtP P w t.p t.kids) (hsz : t.kids.size ≤ 5000) :
    Calls Tryz.prog 142 #[.pointer (some ⟨KB, 0, none⟩), .agg #[.int .u8 t.k, .string t.s, .int .i64 t.n, .slice t.p t.kids.len t.c]] w fun e w' => ∃ v, e = .returned v ∧ WOf P (wk σ t) v w' ∧ Below w.heap.size w w' := by
  have c0 := h.c0
  have HU := Lib.hid h
  have OK := Lib.hid hok
  have AT := Lib.hid hat
  have HP := Lib.hid hP
  have hKl := h.lt
  clear h hok hat hP
  by_cases h1 : (t.k == 1) = true
  · go_enter Tryz.func142, Tryz.ntmps142
    go_upto_region 1 with fail
    obtain ⟨W0, hW0⟩ : ∃ W0, W0 = (w.alloc (.cells #[.int .u8 t.k, .string t.s, .int .i64 t.n, .slice t.p t.kids.len t.c] 25)).alloc (.cells #[.int .u8 0, .string ⟨#[]⟩, .int .i64 0, .slice none 0 0] 25) := ⟨_, rfl⟩
    rw [← hW0]
    obtain ⟨hX0, hY0, hs0, hB0⟩ := boxes2 hW0
    have Z0 := Lib.hid hW0
    have BX := Lib.hid hX0
    have BY := Lib.hid hY0
    have d0 := hX0.c0
    clear hW0 hX0 hY0
    go_upto_region 2 with fail
    have hKl0 : KB < W0.heap.size := by omega
    have c00 := ((stays hB0).1 _ _ hKl).trans c0
    have B0 := Lib.hid hB0
    clear hB0 d0
    refine region_facts_last (fun W_ => Below W0.heap.size W0 W_) [fun u _ => u = .pointer (some ⟨KB, 0, none⟩), fun u _ => u = .pointer (some ⟨KB, 0, none⟩), fun u _ => u = .pointer (some ⟨KB, 0, none⟩), fun u _ => u = .pointer (some ⟨S, 0, none⟩), fun u _ => u = .agg #[.int .u8 t.k, .string t.s, .int .i64 t.n, .slice t.p t.kids.len t.c], fun u W => CloneOf (wk σ t) W0.heap.size u W]
      ⟨.eq _, .eq _, .eq _, .eq _, .eq _, (fun _ _ _ h hB => CloneOf.bel h hB), trivial⟩ (by kernel_rfl) (by kernel_rfl) (by kernel_rfl) (by kernel_rfl) (Below.refl _ _).drew ?_ (by decide)
    refine ⟨?_, ?_, ?_, ?_, ?_, ?_, ?_⟩
    · intro g_ W_ hI hd K hK
      simp only [frameOf, Act.put, List.setIfInBounds_toArray, List.set_cons_zero, List.set_cons_succ]
      go_simp
      refine hK.out (.pointer (some ⟨KB, 0, none⟩)) _ W_ ?_ hI (Below.refl _ _) rfl
      simp only [frameOf, Act.put, List.setIfInBounds_toArray, List.set_cons_zero, List.set_cons_succ, Nat.zero_add, Nat.reduceAdd]
    · intro g_ W_ hI hd K hK
      simp only [frameOf, Act.put, List.setIfInBounds_toArray, List.set_cons_zero, List.set_cons_succ]
      have h0 : g_ 0 = .pointer (some ⟨KB, 0, none⟩) := hd 0 (by kernel_rfl)
      rw [h0]
      go_simp
      refine hK.out (.pointer (some ⟨KB, 0, none⟩)) _ W_ ?_ hI (Below.refl _ _) rfl
      simp only [frameOf, Act.put, List.setIfInBounds_toArray, List.set_cons_zero, List.set_cons_succ, Nat.zero_add, Nat.reduceAdd, h0]
    · intro g_ W_ hI hd K hK
      simp only [frameOf, Act.put, List.setIfInBounds_toArray, List.set_cons_zero, List.set_cons_succ]
      have h1 : g_ 1 = .pointer (some ⟨KB, 0, none⟩) := hd 1 (by kernel_rfl)
      rw [h1]
      go_simp
      refine hK.out (.pointer (some ⟨KB, 0, none⟩)) _ W_ ?_ hI (Below.refl _ _) rfl
      simp only [frameOf, Act.put, List.setIfInBounds_toArray, List.set_cons_zero, List.set_cons_succ, Nat.zero_add, Nat.reduceAdd, h1]
    · intro g_ W_ hI hd K hK
      simp only [frameOf, Act.put, List.setIfInBounds_toArray, List.set_cons_zero, List.set_cons_succ]
      have h2 : g_ 2 = .pointer (some ⟨KB, 0, none⟩) := hd 2 (by kernel_rfl)
      rw [h2]
      have e0 := ((stays hI).1 _ _ hKl0).trans c00
      go_simp
      refine hK.out (.pointer (some ⟨S, 0, none⟩)) _ W_ ?_ hI (Below.refl _ _) rfl
      simp only [frameOf, Act.put, List.setIfInBounds_toArray, List.set_cons_zero, List.set_cons_succ, Nat.zero_add, Nat.reduceAdd, h2]
    · intro g_ W_ hI hd K hK
      simp only [frameOf, Act.put, List.setIfInBounds_toArray, List.set_cons_zero, List.set_cons_succ]
      have XW := BX.out.below hI
      have e0 := XW.c0
      have e1 := XW.c1
      have e2 := XW.c2
      have e3 := XW.c3
      go_simp
      refine hK.out (.agg #[.int .u8 t.k, .string t.s, .int .i64 t.n, .slice t.p t.kids.len t.c]) _ W_ ?_ hI (Below.refl _ _) rfl
      simp only [frameOf, Act.put, List.setIfInBounds_toArray, List.set_cons_zero, List.set_cons_succ, Nat.zero_add, Nat.reduceAdd]
    · intro g_ W_ hI hd K hK
      simp only [frameOf, Act.put, List.setIfInBounds_toArray, List.set_cons_zero, List.set_cons_succ]
      have h3 : g_ 3 = .pointer (some ⟨S, 0, none⟩) := hd 3 (by kernel_rfl)
      have h4 : g_ 4 = .agg #[.int .u8 t.k, .string t.s, .int .i64 t.n, .slice t.p t.kids.len t.c] := hd 4 (by kernel_rfl)
      rw [h3, h4]
      go_simp
      refine (walk_any S σ n W_ ((HU.out.below B0.out).below hI).sub t OK.out ((AtP_at AT.out).below (B0.out.trans (hI.mono B0.out.size))) hsz).mono ?_
      rintro e w' ⟨v', rfl, hC, hB⟩
      refine hK.out v' _ w' ?_ (hI.trans (hB.mono hI.size)) hB (CloneOf.mon hC hI.size)
      simp only [frameOf, Act.put, List.setIfInBounds_toArray, List.set_cons_zero, List.set_cons_succ, Nat.zero_add, Nat.reduceAdd, h3, h4]
    · intro g_ W_ hI hd K hK
      simp only [frameOf, Act.put, List.setIfInBounds_toArray, List.set_cons_zero, List.set_cons_succ]
      obtain ⟨us, q, d, h5, ha5, htw5, hok5, hcl5, hn5⟩ := hd 5 (by decide)
      rw [h5]
      have YW := BY.out.below hI
      have y0 := YW.c0
      have y1 := YW.c1
      have y2 := YW.c2
      have y3 := YW.c3
      have yf := YW.fr
      have P1 := YW.put (y := ⟨(wk σ t).k, (wk σ t).s, (wk σ t).n, q, d, us⟩)
      have HPUT := Lib.hid P1
      have HI := Lib.hid hI
      have A5 := Lib.hid ha5
      have C5 := Lib.hid (And.intro htw5 (And.intro hok5 (And.intro hcl5 hn5)))
      have H5 := Lib.hid h5
      clear hd YW hI ha5 htw5 hok5 hcl5 hn5 P1 h5
      unfold tv
      go_simp
      refine hK.out undef _ _ ?_ ?_
      · simp only [frameOf, Act.put, List.setIfInBounds_toArray, List.set_cons_zero, List.set_cons_succ, Nat.zero_add, Nat.reduceAdd, H5.out]
        rfl
      · simp only [frameOf, Act.put, List.setIfInBounds_toArray, List.set_cons_zero, List.set_cons_succ, Nat.zero_add, Nat.reduceAdd, H5.out]
        clear hK K
        go_wp2
        have p0 := HPUT.out.c0
        have p1 := HPUT.out.c1
        have p2 := HPUT.out.c2
        have p3 := HPUT.out.c3
        exact bodyPost_ret (v := tv (wk σ t).k (wk σ t).s (wk σ t).n q us.len d) (by simp [results, Tryz.results142, go_sem, p0, p1, p2, p3, tv]) rfl ⟨_, rfl, by
          refine ⟨us, q, d, rfl, (AtP_imp (fun b _ hb => ⟨HP.out b (by omega), by omega⟩) (AtB_atP A5.out) : Ts.AtP (fun b => P b ∧ w.heap.size + 2 ≤ b) W_ q us).stay (fun b hb _ => ?_) |> AtP_imp (fun b _ hb => hb.1), C5.out.1, C5.out.2.1, C5.out.2.2.1, C5.out.2.2.2⟩
          rw [Below.heap_setCell _ _ _ _ (by simp; omega), Below.heap_setCell _ _ _ _ (by simp; omega), Below.heap_setCell _ _ _ _ (by simp; omega), Below.heap_setCell _ _ _ _ (by simp; omega)], below_put4 (B0.out.trans (HI.out.mono B0.out.size)) (by omega) _ _ _ _⟩
  · rw [Bool.not_eq_true] at h1
    go_enter Tryz.func142, Tryz.ntmps142
    go_upto_region 1 with fail
    obtain ⟨W0, hW0⟩ : ∃ W0, W0 = (w.alloc (.cells #[.int .u8 t.k, .string t.s, .int .i64 t.n, .slice t.p t.kids.len t.c] 25)).alloc (.cells #[.int .u8 0, .string ⟨#[]⟩, .int .i64 0, .slice none 0 0] 25) := ⟨_, rfl⟩
    rw [← hW0]
    obtain ⟨hX0, hY0, hs0, hB0⟩ := boxes2 hW0
    have Z0 := Lib.hid hW0
    have P1 := hY0.put (y := t)
    have p0 := P1.c0
    have p1 := P1.c1
    have p2 := P1.c2
    have p3 := P1.c3
    clear P1
    have d0 := hX0.c0
    have d1 := hX0.c1
    have d2 := hX0.c2
    have d3 := hX0.c3
    have y0 := hY0.c0
    have y1 := hY0.c1
    have y2 := hY0.c2
    have y3 := hY0.c3
    have yf := hY0.fr
    have B0 := Lib.hid hB0
    clear hW0 hX0 hY0 hB0 hs0
    go_wp2
    exact bodyPost_ret (v := tv t.k t.s t.n t.p t.kids.len t.c) (by simp [results, Tryz.results142, go_sem, p0, p1, p2, p3, tv]) rfl ⟨_, rfl, by
      rw [wk_stop (.inl h1)]
      refine ⟨t.kids, t.p, t.c, rfl, (((AtP_imp (fun b hl hb => ⟨hb, hl⟩) AT.out : Ts.AtP (fun b => P b ∧ b < w.heap.size) w t.p t.kids).stay fun b _ hb => B0.out.block b hb).stay fun b hb _ => ?_) |> AtP_imp (fun b _ hb => hb.1), Ts.twin_refl _, OK.out.2.2.2.2.2.1, OK.out.2.2.2.1, OK.out.2.2.2.2.1⟩
      rw [Below.heap_setCell _ _ _ _ (by simp; omega), Below.heap_setCell _ _ _ _ (by simp; omega), Below.heap_setCell _ _ _ _ (by simp; omega), Below.heap_setCell _ _ _ _ (by simp; omega)], below_put4 B0.out (by omega) _ _ _ _⟩

end Go.Proofs.YtnmhnaanpjlniaaGreat
/-
  Layer 13: the operations, one by one; what they come to is a number of 64 bits.
-/
namespace Go.Proofs.YtnmhnaanpjlniaaGreat
open Go.RowKit

theorem opIdx_ar {s : ByteArray} {n : Nat} {j : Nat} (hs : s.size ≤ 140737488351232) (hn : n ≤ 9223372036854775807) (h : opIdx (funKey s n) = some j) : s = opSyms j ∧ (n : Int) = opAr j ∧ j < 7 := by
  obtain ⟨h1, h2⟩ := opIdx_eq h
  unfold funKey at h1
  have hj : (opSyms j).data.toList.length ≤ maxLen := by
    unfold opSyms maxLen
    split <;> decide
  have h3 := keyBytes_inj (l := [.string s.data.toList, .int .i64 n]) (l' := [.string (opSyms j).data.toList, .int .i64 (opAr j)]) ⟨trivial, rfl, trivial⟩ (by
    intro a ha
    simp only [List.mem_cons, List.not_mem_nil, or_false] at ha
    rcases ha with rfl | rfl
    · show s.data.toList.length ≤ maxLen
      unfold maxLen
      rw [Array.length_toList]
      exact Nat.le_trans hs (by omega)
    · exact wf64 (by omega)) (by
    intro a ha
    simp only [List.mem_cons, List.not_mem_nil, or_false] at ha
    rcases ha with rfl | rfl
    · exact hj
    · refine wf64 ?_
      unfold opAr
      split <;> omega) (by simpa using h1)
  simp only [List.cons.injEq, Lit.string.injEq, Lit.int.injEq, true_and, and_true] at h3
  refine ⟨?_, h3.2, h2⟩
  have h4 := h3.1
  revert h4
  cases s
  cases opSyms j
  intro h4
  simp only [Array.toList_inj] at h4
  rw [h4]

theorem i64_0 : isI64 0 := by unfold isI64; omega

theorem tdiv_bd (a b : Int) (ha : isI64 a) (hc : ¬ (a = -9223372036854775808 ∧ b = -1)) : isI64 (a.tdiv b) := by
  unfold isI64 at *
  have h1 : (a.tdiv b).natAbs = a.natAbs / b.natAbs := Int.natAbs_tdiv a b
  have h2 : a.natAbs / b.natAbs ≤ a.natAbs := Nat.div_le_self _ _
  have h3 : a.tdiv b ≠ 9223372036854775808 := by
    intro he
    rw [he] at h1
    have h4 : b.natAbs ≠ 1 → a.natAbs / b.natAbs ≤ a.natAbs / 2 := fun hb1 => by
      by_cases hz : b.natAbs = 0
      · rw [hz, Nat.div_zero]; omega
      · exact Nat.div_le_div_left (by omega) (by omega)
    have h5 : b.natAbs = 1 := by
      by_cases hb1 : b.natAbs = 1
      · exact hb1
      · have := h4 hb1; omega
    have h6 : b = 1 ∨ b = -1 := by omega
    rcases h6 with rfl | rfl
    · rw [Int.tdiv_one] at he; omega
    · have h7 : a.tdiv (-1) = -a := by rw [Int.tdiv_neg, Int.tdiv_one]
      rw [h7] at he
      omega
  omega

theorem opR_i64 (j : Nat) {a b : Int} (ha : isI64 a) (hb : isI64 b) : isI64 (opR j a b).1 := by
  have hp : isI64 (plusR a b).1 := by unfold plusR; split; (· rename_i h; exact h); exact i64_0
  have hm : isI64 (minusR a b).1 := by unfold minusR; split; (· rename_i h; exact h); exact i64_0
  unfold opR
  split
  · exact hp
  · exact hm
  · unfold timesR; split; (· rename_i h; exact h); exact i64_0
  · unfold quotR
    split
    · exact i64_0
    · split
      · exact i64_0
      · rename_i h; exact tdiv_bd a b ha h
  · unfold remR
    split
    · exact i64_0
    · rename_i h
      have := tmod_bd a b hb h
      unfold isI64
      simp only
      omega
  · unfold modR
    split
    · exact i64_0
    · rename_i h
      have := tmod_bd a b hb h
      unfold isI64 at *
      split
      · rename_i h2; simp only; omega
      · simp only; omega
  · exact hm

theorem plus_enters : ∀ args W, (callFunc 129 args).run Tryz.prog W = .ok (.enter 129 args) W := fun _ _ => by kernel_rfl
theorem minus_enters : ∀ args W, (callFunc 130 args).run Tryz.prog W = .ok (.enter 130 args) W := fun _ _ => by kernel_rfl
theorem times_enters : ∀ args W, (callFunc 131 args).run Tryz.prog W = .ok (.enter 131 args) W := fun _ _ => by kernel_rfl
theorem quotient_enters : ∀ args W, (callFunc 132 args).run Tryz.prog W = .ok (.enter 132 args) W := fun _ _ => by kernel_rfl
theorem remainder_enters : ∀ args W, (callFunc 133 args).run Tryz.prog W = .ok (.enter 133 args) W := fun _ _ => by kernel_rfl
theorem modulo_enters : ∀ args W, (callFunc 134 args).run Tryz.prog W = .ok (.enter 134 args) W := fun _ _ => by kernel_rfl
theorem op_enters (j : Nat) (hj : j < 7) : ∀ args W, (callFunc (opFn j) args).run Tryz.prog W = .ok (.enter (opFn j) args) W := by
  obtain rfl | rfl | rfl | rfl | rfl | rfl | rfl : j = 0 ∨ j = 1 ∨ j = 2 ∨ j = 3 ∨ j = 4 ∨ j = 5 ∨ j = 6 := by omega
  · unfold opFn; exact plus_enters
  · unfold opFn; exact minus_enters
  · unfold opFn; exact times_enters
  · unfold opFn; exact quotient_enters
  · unfold opFn; exact remainder_enters
  · unfold opFn; exact modulo_enters
  · unfold opFn; exact minus_enters

theorem op_any (j : Nat) (hj : j < 7) (a b : Int) (ha : isI64 a) (hb : isI64 b) (W : World) : Calls Tryz.prog (opFn j) #[.int .i64 a, .int .i64 b] W fun e w' => e = endsAs (opR j a b) ∧ w' = W := by
  obtain rfl | rfl | rfl | rfl | rfl | rfl | rfl : j = 0 ∨ j = 1 ∨ j = 2 ∨ j = 3 ∨ j = 4 ∨ j = 5 ∨ j = 6 := by omega
  · unfold opFn opR; exact plus_any a b ha hb W
  · unfold opFn opR; exact minus_any a b ha hb W
  · unfold opFn opR; exact times_any a b ha hb W
  · unfold opFn opR; exact quotient_any a b ha hb W
  · unfold opFn opR; exact remainder_any a b ha hb W
  · unfold opFn opR; exact modulo_any a b ha hb W
  · unfold opFn opR; exact minus_any a b ha hb W

theorem rkOp_i64 {rec : Nat → Nd → (Int × Int) × Nat} {l : List Nd} (h : ∀ r, ∀ x ∈ l, isI64 (rec r x).1.1) (r : Nat) (o : Option Nat) : isI64 (rkOp rec r o l).1.1 := by
  cases o with
  | none => rw [rkOp_none]; exact i64_0
  | some j =>
    cases l with
    | nil => exact i64_0
    | cons a l =>
      cases l with
      | nil =>
        have h1 := h r a (by simp)
        simp only [rkOp]
        split
        · exact i64_0
        · exact opR_i64 j i64_0 h1
      | cons b l =>
        cases l with
        | nil =>
          have h1 := h r a (by simp)
          have h2 := h (rec r a).2 b (by simp)
          simp only [rkOp]
          split
          · exact i64_0
          · split
            · exact i64_0
            · exact opR_i64 j h1 h2
        | cons => exact i64_0

theorem elems_okN : ∀ {ts : Ts}, ts.ok → ∀ x ∈ elems ts, x.ok
  | .nil, _, x, hx => by cases hx
  | .cons k s n p c kids rest, h, x, hx => by
    simp only [elems, List.mem_cons] at hx
    rcases hx with rfl | hx
    · exact ⟨h.1, h.2.1, h.2.2.1, h.2.2.2.1, h.2.2.2.2.1, h.2.2.2.2.2.1, trivial⟩
    · exact elems_okN h.2.2.2.2.2.2 x hx

theorem rk_i64 {σ : Sb} (hE : Ends σ) (hg : ∀ v x, σ v = some x → x.ok) : ∀ (f r : Nat) {t : Nd}, t.ok → isI64 (rk σ f r t).1.1
  | 0, _, _, _ => i64_0
  | f + 1, r, t, ht => by
    have hw : (wk σ t).ok := by
      have key : ∀ {t r : Nd} {m : Nat}, Wk σ t r m → t.ok → r.ok := fun h => by
        induction h with
        | stop => exact id
        | go _ hb _ ih => exact fun _ => ih (hg _ _ hb)
      exact key (wk_spec hE t) ht
    simp only [rk]
    split
    · exact i64_0
    · split
      · exact i64_0
      · split
        · exact hw.2.2.1
        · exact rkOp_i64 (fun r x hx => rk_i64 hE hg f r (elems_okN hw.2.2.2.2.2.1 x hx)) _ _

end Go.Proofs.YtnmhnaanpjlniaaGreat
/-
  Layer 4: unification as a function: what is bound, how many visits are left.
-/
namespace Go.Proofs.YtnmhnaanpjlniaaGreat
open Go.RowKit

/-- what becomes of binding a variable, so many visits being left -/
inductive BO where
  | full
  | no
  | ok (r : Nat)

noncomputable def bnd (r : Nat) (σ : Sb) (v : Int) (t : Nd) : BO :=
  if 0 ≤ posA v 0 (vis σ (r + 1) [t]) ∧ posA v 0 (vis σ (r + 1) [t]) ≤ (r : Int) then .no
  else if r < (vis σ (r + 1) [t]).length then .full
  else if v < 0 then .no else .ok (r - (vis σ (r + 1) [t]).length)

theorem bnd_le {r r' : Nat} {σ : Sb} {v : Int} {t : Nd} (h : bnd r σ v t = .ok r') : r' ≤ r := by
  unfold bnd at h
  split at h
  · cases h
  split at h
  · cases h
  split at h
  · cases h
  cases h
  omega

/-- how a unification ends: full, not, or with what is bound, how many more, and how many visits are left -/
inductive Out where
  | full
  | no
  | ok (σ : Sb) (c r : Nat)

/-- are the heads alike? -/
def headU (x y : Nd) : Bool := (x.k == y.k) && ((x.s.toList == y.s.toList) && ((x.n == y.n) && decide (x.kids.len = y.kids.len)))

/-- a pair, but for its Args -/
inductive OneO where
  | full
  | no
  | ok (σ : Sb) (c r : Nat) (l : List (Nd × Nd))

noncomputable def one (r c : Nat) (σ : Sb) (a b : Nd) : OneO :=
  if ((wk σ a).k == 1) = true then
    (if ((wk σ b).k == 1) = true ∧ (wk σ a).n = (wk σ b).n then .ok σ c r []
     else match bnd r σ (wk σ a).n (wk σ b) with
      | .full => .full
      | .no => .no
      | .ok r' => .ok (σ.put (wk σ a).n (wk σ b)) (c + 1) (min r' r) [])
  else if ((wk σ b).k == 1) = true then
    (match bnd r σ (wk σ b).n (wk σ a) with
      | .full => .full
      | .no => .no
      | .ok r' => .ok (σ.put (wk σ b).n (wk σ a)) (c + 1) (min r' r) [])
  else if headU (wk σ a) (wk σ b) = true then .ok σ c r ((elems (wk σ a).kids).zip (elems (wk σ b).kids))
  else .no

theorem one_le {r c : Nat} {σ : Sb} {a b : Nd} {σ' : Sb} {c' r' : Nat} {l : List (Nd × Nd)} (h : one r c σ a b = .ok σ' c' r' l) : r' ≤ r := by
  unfold one at h
  split at h
  · split at h
    · cases h; exact Nat.le_refl _
    · split at h
      · cases h
      · cases h
      · cases h; exact Nat.min_le_right _ _
  · split at h
    · split at h
      · cases h
      · cases h
      · cases h; exact Nat.min_le_right _ _
    · split at h
      · cases h; exact Nat.le_refl _
      · cases h

noncomputable def un (r c : Nat) (σ : Sb) (l : List (Nd × Nd)) : Out :=
  match l, r with
  | [], r => .ok σ c r
  | _ :: _, 0 => .full
  | (a, b) :: l, r + 1 =>
    match h : one r c σ a b with
    | .full => .full
    | .no => .no
    | .ok σ' c' r' m => un r' c' σ' (m ++ l)
termination_by r
decreasing_by
  have := one_le h
  omega

theorem un_nil (r c : Nat) (σ : Sb) : un r c σ [] = .ok σ c r := by rw [un]
theorem un_zero (c : Nat) (σ : Sb) (p : Nd × Nd) (l : List (Nd × Nd)) : un 0 c σ (p :: l) = .full := by rw [un]
theorem un_full {r c : Nat} {σ : Sb} {a b : Nd} {l : List (Nd × Nd)} (h : one r c σ a b = .full) : un (r + 1) c σ ((a, b) :: l) = .full := by
  rw [un]
  split
  · rfl
  · rename_i h'; rw [h] at h'; cases h'
  · rename_i h'; rw [h] at h'; cases h'
theorem un_no {r c : Nat} {σ : Sb} {a b : Nd} {l : List (Nd × Nd)} (h : one r c σ a b = .no) : un (r + 1) c σ ((a, b) :: l) = .no := by
  rw [un]
  split
  · rename_i h'; rw [h] at h'; cases h'
  · rfl
  · rename_i h'; rw [h] at h'; cases h'
theorem un_ok {r c : Nat} {σ : Sb} {a b : Nd} {l m : List (Nd × Nd)} {σ' : Sb} {c' r' : Nat} (h : one r c σ a b = .ok σ' c' r' m) : un (r + 1) c σ ((a, b) :: l) = un r' c' σ' (m ++ l) := by
  rw [un]
  split
  · rename_i h'; rw [h] at h'; cases h'
  · rename_i h'; rw [h] at h'; cases h'
  · rename_i h'; rw [h] at h'; cases h'; rfl

/-- substitutions that are alike, each bound once more -/
theorem STw.put2 {σ ρ : Sb} (h : STw σ ρ) {v : Int} {x t : Nd} (ht : x.twin t) : STw (σ.put v x) (ρ.put v t) := by
  refine ⟨fun u hu => ?_, fun u y hy => ?_⟩
  · by_cases e : u = v
    · subst e; rw [Sb.put_same] at hu; cases hu
    · rw [Sb.put_other e] at hu ⊢; exact h.no u hu
  · by_cases e : u = v
    · subst e
      rw [Sb.put_same] at hy ⊢
      cases hy
      exact ⟨t, rfl, ht⟩
    · rw [Sb.put_other e] at hy ⊢
      exact h.yes u y hy

theorem posA_tw (v : Int) {a b : List Nd} (h : TwL a b) : ∀ i, posA v i a = posA v i b := by
  induction h with
  | nil => intro i; rfl
  | cons h1 _ ih =>
    intro i
    simp only [posA]
    rw [h1.1, h1.2.2.1, ih]

theorem Nd.twin_symm {x y : Nd} (h : x.twin y) : y.twin x := ⟨h.1.symm, h.2.1.symm, h.2.2.1.symm, Ts.twin_symm _ _ h.2.2.2⟩
theorem Nd.twin_trans {x y z : Nd} (h : x.twin y) (h' : y.twin z) : x.twin z := ⟨h.1.trans h'.1, h.2.1.trans h'.2.1, h.2.2.1.trans h'.2.2.1, Go.Proofs.YtnmhnaanpjlniaaGreat.twin_trans h.2.2.2 h'.2.2.2⟩

theorem bnd_tw {σ ρ : Sb} (h : STw σ ρ) (hE : Ends σ) {r : Nat} {v : Int} {t t' : Nd} (ht : t.twin t') : bnd r σ v t = bnd r ρ v t' := by
  have hv := h.vis hE (r + 1) (.cons ht .nil)
  unfold bnd
  rw [posA_tw v hv, hv.length]

theorem headU_tw {x y x' y' : Nd} (h : x.twin x') (h' : y.twin y') : headU x y = headU x' y' := by
  unfold headU
  rw [h.1, h.2.1, h.2.2.1, h'.1, h'.2.1, h'.2.2.1, Ts.twin_len _ _ h.2.2.2, Ts.twin_len _ _ h'.2.2.2]

/-- pairs that are alike -/
inductive TwP : List (Nd × Nd) → List (Nd × Nd) → Prop
  | nil : TwP [] []
  | cons {a b a' b' : Nd} {l m : List (Nd × Nd)} (h : a.twin a') (h' : b.twin b') (hl : TwP l m) : TwP ((a, b) :: l) ((a', b') :: m)

theorem TwP.app {a b : List (Nd × Nd)} (h : TwP a b) {c d : List (Nd × Nd)} (h' : TwP c d) : TwP (a ++ c) (b ++ d) := by
  induction h with
  | nil => exact h'
  | cons h1 h2 _ ih => exact .cons h1 h2 ih

theorem TwP.refl : ∀ l : List (Nd × Nd), TwP l l
  | [] => .nil
  | (a, b) :: l => .cons (Nd.twin_refl a) (Nd.twin_refl b) (TwP.refl l)

theorem TwL.zip {a a' : List Nd} (h : TwL a a') : ∀ {b b' : List Nd}, TwL b b' → TwP (a.zip b) (a'.zip b') := by
  induction h with
  | nil => intro b b' _; simp only [List.zip_nil_left]; exact .nil
  | cons h1 _ ih =>
    intro b b' hb
    cases hb with
    | nil => simp only [List.zip_nil_right]; exact .nil
    | cons h2 hb => simp only [List.zip_cons_cons]; exact .cons h1 h2 (ih hb)

/-- ends that are alike -/
def OneO.tw : OneO → OneO → Prop
  | .full, .full => True
  | .no, .no => True
  | .ok σ c r l, .ok ρ c' r' l' => STw σ ρ ∧ c = c' ∧ r = r' ∧ TwP l l'
  | _, _ => False
def Out.tw : Out → Out → Prop
  | .full, .full => True
  | .no, .no => True
  | .ok σ c r, .ok ρ c' r' => STw σ ρ ∧ c = c' ∧ r = r'
  | _, _ => False

theorem one_tw {σ ρ : Sb} (h : STw σ ρ) (hE : Ends σ) {r c : Nat} {a b a' b' : Nd} (ha : a.twin a') (hb : b.twin b') : (one r c σ a b).tw (one r c ρ a' b') := by
  have hx := h.wk hE ha
  have hy := h.wk hE hb
  unfold one
  rw [← hx.1, ← hy.1, ← hx.2.2.1, ← hy.2.2.1, ← bnd_tw h hE hy, ← bnd_tw h hE hx, ← headU_tw hx hy]
  split
  · split
    · exact ⟨h, rfl, rfl, .nil⟩
    · split
      · exact trivial
      · exact trivial
      · exact ⟨h.put2 hy, rfl, rfl, .nil⟩
  · split
    · split
      · exact trivial
      · exact trivial
      · exact ⟨h.put2 hx, rfl, rfl, .nil⟩
    · split
      · exact ⟨h, rfl, rfl, (elems_tw hx.2.2.2).zip (elems_tw hy.2.2.2)⟩
      · exact trivial


theorem bnd_not {r r' : Nat} {σ : Sb} {v : Int} {t : Nd} (h : bnd r σ v t = .ok r') : posA v 0 (vis σ (r + 1) [t]) < 0 ∧ (vis σ (r + 1) [t]).length ≤ r ∧ 0 ≤ v ∧ r' = r - (vis σ (r + 1) [t]).length := by
  unfold bnd at h
  split at h
  · cases h
  · rename_i h1
    split at h
    · cases h
    · rename_i h2
      split at h
      · cases h
      · rename_i h3
        cases h
        have := posA_le v (vis σ (r + 1) [t]) 0
        refine ⟨?_, by omega, by omega, rfl⟩
        omega

theorem bnd_ends {r r' : Nat} {σ : Sb} {v : Int} {t : Nd} (hE : Ends σ) (hv : σ v = none) (h : bnd r σ v t = .ok r') : Ends (σ.put v t) := by
  refine hE.put hv fun hc => ?_
  have h1 := (bnd_not h).1
  simp only [vis, posA] at h1
  rw [if_pos (by rw [hc.1, hc.2]; simp)] at h1
  omega

theorem one_ends {σ σ' : Sb} {r c r' c' : Nat} {a b : Nd} {l : List (Nd × Nd)} (hE : Ends σ) (h : one r c σ a b = .ok σ' c' r' l) : Ends σ' := by
  have free : ∀ t, ((wk σ t).k == 1) = true → σ (wk σ t).n = none := fun t hk => by
    rcases (wk_spec hE t).ends with h | h
    · rw [h] at hk; cases hk
    · exact h
  unfold one at h
  split at h
  · rename_i hk
    split at h
    · cases h; exact hE
    · split at h
      · cases h
      · cases h
      · rename_i hb
        cases h
        exact bnd_ends hE (free _ hk) hb
  · split at h
    · rename_i hk
      split at h
      · cases h
      · cases h
      · rename_i hb
        cases h
        exact bnd_ends hE (free _ hk) hb
    · split at h
      · cases h; exact hE
      · cases h

theorem un_tw : ∀ (r : Nat) {σ ρ : Sb} (c : Nat) {l m : List (Nd × Nd)}, STw σ ρ → Ends σ → TwP l m → (un r c σ l).tw (un r c ρ m) := by
  intro r
  induction r using Nat.strongRecOn with
  | ind r ih =>
  intro σ ρ c l m h hE hl
  cases hl with
  | nil => rw [un_nil, un_nil]; exact ⟨h, rfl, rfl⟩
  | @cons a b a' b' l m ha hb hl =>
    cases r with
    | zero => rw [un_zero, un_zero]; trivial
    | succ r =>
      have h1 := one_tw (r := r) (c := c) h hE ha hb
      cases e1 : one r c σ a b with
      | full =>
        rw [e1] at h1
        cases e2 : one r c ρ a' b' with
        | full => rw [un_full e1, un_full e2]; trivial
        | no => rw [e2] at h1; exact h1.elim
        | ok σ2 c2 r2 l2 => rw [e2] at h1; exact h1.elim
      | no =>
        rw [e1] at h1
        cases e2 : one r c ρ a' b' with
        | full => rw [e2] at h1; exact h1.elim
        | no => rw [un_no e1, un_no e2]; trivial
        | ok σ2 c2 r2 l2 => rw [e2] at h1; exact h1.elim
      | ok σ1 c1 r1 l1 =>
        rw [e1] at h1
        cases e2 : one r c ρ a' b' with
        | full => rw [e2] at h1; exact h1.elim
        | no => rw [e2] at h1; exact h1.elim
        | ok σ2 c2 r2 l2 =>
          rw [e2] at h1
          obtain ⟨g1, rfl, rfl, g4⟩ := h1
          rw [un_ok e1, un_ok e2]
          have := one_le e1
          exact ih r1 (by omega) c1 g1 (one_ends hE e1) (g4.app hl)

end Go.Proofs.YtnmhnaanpjlniaaGreat
/-
  Layer 4: what two blocks that turn leave as it was; plain facts on visits.
-/
namespace Go.Proofs.YtnmhnaanpjlniaaGreat
open Go.RowKit

/-- all blocks but two are as they were -/
structure G2 (KB S : Nat) (w w' : World) : Prop where
  os : w'.os = w.os
  tape : w'.tape = w.tape
  output : w'.output = w.output
  size : w.heap.size ≤ w'.heap.size
  block : ∀ k, k < w.heap.size → k ≠ KB → k ≠ S → w'.heap[k]? = w.heap[k]?

theorem G2.refl (KB S : Nat) (w : World) : G2 KB S w w := ⟨rfl, rfl, rfl, Nat.le_refl _, fun _ _ _ _ => rfl⟩
theorem G2.trans {KB S : Nat} {a b c : World} (h : G2 KB S a b) (k : G2 KB S b c) : G2 KB S a c :=
  ⟨k.os.trans h.os, k.tape.trans h.tape, k.output.trans h.output, Nat.le_trans h.size k.size, fun i hi h1 h2 => (k.block i (Nat.lt_of_lt_of_le hi h.size) h1 h2).trans (h.block i hi h1 h2)⟩
theorem G2.of_below {KB S : Nat} {w w' : World} (h : Below w.heap.size w w') : G2 KB S w w' := ⟨h.os, h.tape, h.output, h.size, fun k hk _ _ => h.block k hk⟩
theorem G2.of_K {KB S : Nat} {w w' : World} (h : w.grownBy w' (some KB)) : G2 KB S w w' := ⟨h.os, h.tape, h.output, h.size, fun k hk h1 _ => h.block k hk (fun e => h1 (by cases e; rfl))⟩
theorem G2.of_S {KB S : Nat} {w w' : World} (h : w.grownBy w' (some S)) : G2 KB S w w' := ⟨h.os, h.tape, h.output, h.size, fun k hk _ h1 => h.block k hk (fun e => h1 (by cases e; rfl))⟩
theorem G2.below {KB S B : Nat} {a w w' : World} (h : Below B a w) (hg : G2 KB S w w') (hB : B ≤ w.heap.size) (h1 : B ≤ KB) (h2 : B ≤ S) : Below B a w' :=
  h.trans ⟨hg.os, hg.tape, hg.output, hg.size, fun k hk => hg.block k (by omega) (by omega) (by omega)⟩

/-- a block holds fewer cells than a term has -/
def Tiny (K : Nat) (w : World) : Prop := ∃ cs t fr, w.heap[K]? = some (.cells cs t fr) ∧ cs.size < 4
theorem Tiny.ne {K b o : Nat} {w : World} (h : Tiny K w) {v : Value} (hc : w.cell? ⟨b, o + 3, none⟩ = some v) : b ≠ K := by
  obtain ⟨cs, t, fr, h1, h2⟩ := h
  intro e
  subst e
  simp only [World.cell?, h1] at hc
  have := (Array.getElem?_eq_some_iff.1 hc).1
  omega
theorem UAt.tinyK {KB S : Nat} {σ : Sb} {n m : Nat} {w : World} (h : UAt KB S σ n m w) : Tiny KB w := ⟨_, _, _, h.cell, by simp⟩
theorem SubAt.tiny {S : Nat} {σ : Sb} {n : Nat} {w : World} (h : SubAt S σ n w) : Tiny S w := by
  obtain ⟨p, hh, h1, _⟩ := h.cells
  exact ⟨_, _, _, h1, by simp⟩

theorem liesP_g2 {P : Nat → Prop} {KB S : Nat} {w w' : World} (hg : G2 KB S w w') (hK : Tiny KB w) (hS : Tiny S w) : ∀ (ts : Ts) {b o : Nat}, ts.liesP P w b o → ts.liesP P w' b o
  | .nil, _, _, _ => trivial
  | .cons k s n p c kids rest, b, o, ⟨hP, h0, h1, h2, h3, ⟨b', o', h4, h5⟩, h6⟩ => by
    have e := fun y => World.cell?_of_block (a := ⟨b, y, none⟩) (hg.block b (World.block_lt_of_cell? _ _ h0) (hK.ne h3) (hS.ne h3))
    exact ⟨hP, (e _).trans h0, (e _).trans h1, (e _).trans h2, (e _).trans h3, ⟨b', o', h4, liesP_g2 hg hK hS kids h5⟩, liesP_g2 hg hK hS rest h6⟩
theorem AtP_g2 {P : Nat → Prop} {KB S : Nat} {w w' : World} (hg : G2 KB S w w') (hK : Tiny KB w) (hS : Tiny S w) {p : Option Addr} {ts : Ts} (h : Ts.AtP P w p ts) : Ts.AtP P w' p ts := by
  obtain ⟨b, o, h1, h2⟩ := h
  exact ⟨b, o, h1, liesP_g2 hg hK hS ts h2⟩
theorem At_g2 {KB S : Nat} {w w' : World} (hg : G2 KB S w w') (hK : Tiny KB w) (hS : Tiny S w) {p : Option Addr} {ts : Ts} (h : Ts.At w p ts) : Ts.At w' p ts := AtP_at (AtP_g2 hg hK hS h.atP)

theorem BoxIs.g2 {B : Nat} {x : Nd} {KB S : Nat} {w w' : World} (h : BoxIs B x w) (hg : G2 KB S w w') (h1 : B ≠ KB) (h2 : B ≠ S) : BoxIs B x w' := h.of_block (hg.block B h.lt h1 h2)

theorem vis_mono {σ : Sb} : ∀ (f g : Nat) {l : List Nd}, (vis σ f l).length < f → f ≤ g → vis σ g l = vis σ f l
  | 0, _, _, h, _ => by omega
  | _ + 1, 0, _, _, h => by omega
  | _ + 1, _ + 1, [], _, _ => rfl
  | f + 1, g + 1, t :: rest, h, hg => by
    simp only [vis, List.length_cons] at h ⊢
    rw [vis_mono f g (by omega) (by omega)]

theorem posA_hit (v : Int) (y : Nd) (rest : List Nd) (hy : ((y.k == 1) && (y.n == v)) = true) : ∀ (pre : List Nd) (i : Nat), posA v i pre < 0 → posA v i (pre ++ y :: rest) = ((i + pre.length + 1 : Nat) : Int)
  | [], i, _ => by simp only [List.nil_append, posA, hy, if_true, List.length_nil, Nat.add_zero]
  | x :: pre, i, h => by
    simp only [posA] at h
    split at h
    · omega
    · rename_i hx
      simp only [List.cons_append, posA, if_neg hx, List.length_cons]
      rw [posA_hit v y rest hy pre (i + 1) h]
      congr 1
      omega

theorem bind_zero_of {r : Nat} {σ : Sb} {v : Int} {t : Nd} (hr : r ≤ 4096) (hv : 0 ≤ v) (hn : σ v = none) (h1 : posA v 0 (vis σ (r + 1) [t]) < 0) (h2 : (vis σ (r + 1) [t]).length ≤ r) : bindE σ v t = 0 := by
  have e := vis_mono (σ := σ) (r + 1) 4097 (l := [t]) (by omega) (by omega)
  have ho : occ v (num 0 (vis σ 4097 [t])) = (false, 0) := by
    rw [e, occ_pos v _ 0 (by omega) (by omega), if_neg (by omega), if_neg (by omega)]
  unfold bindE
  rw [if_neg (by omega), hn, ho]
  simp

/-- how far a unification is from the end of its visits -/
def visFar (KB : Nat) (w : World) : Nat := match w.cell? ⟨KB, 1, none⟩ with
  | some (.int _ m) => 4097 - m.toNat
  | _ => 0
theorem UAt.far {KB S : Nat} {σ : Sb} {n m : Nat} {w : World} (h : UAt KB S σ n m w) : visFar KB w = 4097 - m := by
  unfold visFar
  rw [h.c1]
  simp

theorem G2.one {KB S : Nat} {w w' : World} (h : G2 KB KB w w') : G2 KB S w w' := ⟨h.os, h.tape, h.output, h.size, fun k hk h1 _ => h.block k hk h1 h1⟩

/-- a block turns that was not there -/
theorem G2.fresh {KB S g : Nat} {w a b : World} (h : G2 KB S w a) (hg : a.grownBy b (some g)) (hge : w.heap.size ≤ g) : G2 KB S w b :=
  ⟨hg.os.trans h.os, hg.tape.trans h.tape, hg.output.trans h.output, Nat.le_trans h.size hg.size, fun k hk h1 h2 => (hg.block k (Nat.lt_of_lt_of_le hk h.size) (fun e => by cases e; omega)).trans (h.block k hk h1 h2)⟩

/-- a small block turns, and new ones -/
theorem SubAt.g1 {S KB : Nat} {σ : Sb} {n : Nat} {w w' : World} (h : SubAt S σ n w) (hg : G2 KB KB w w') (hK : Tiny KB w) (hne : S ≠ KB) : SubAt S σ n w' := by
  obtain ⟨p, hh, h1, h3, h4, h5⟩ := h.cells
  obtain ⟨cs, t, fr, k1, k2⟩ := hK
  refine ⟨⟨p, hh, (hg.block S h.lt hne hne).trans h1, h3, h4.stay (Nat.le_refl _) (fun b hb => ?_), h5⟩, h.ends, fun v x hx => ⟨At_g2 hg ⟨cs, t, fr, k1, k2⟩ ⟨cs, t, fr, k1, k2⟩ (h.at_ v x hx).1, (h.at_ v x hx).2⟩⟩
  have hb2 : b < w.heap.size ∧ b ≠ KB := by
    rcases hb with ⟨ks, u, hb⟩ | ⟨es, k, hb⟩
    · refine ⟨(Array.getElem?_eq_some_iff.1 hb).1, fun e => ?_⟩
      rw [e, k1] at hb
      cases hb
      rw [kidCells_size] at k2
      omega
    · refine ⟨(Array.getElem?_eq_some_iff.1 hb).1, fun e => ?_⟩
      rw [e, k1] at hb
      cases hb
  exact hg.block b hb2.1 hb2.2 hb2.2

end Go.Proofs.YtnmhnaanpjlniaaGreat
