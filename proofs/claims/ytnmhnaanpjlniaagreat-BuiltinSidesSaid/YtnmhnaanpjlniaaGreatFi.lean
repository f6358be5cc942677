import Derived.Test.YtnmhnaanpjlniaaGreatFb
import Derived.Test.YtnmhnaanpjlniaaGreatTw
import Derived.Deep.CutBlock
import Derived.Test.YtnmhnaanpjlniaaGreatFh
/-
  Whether a predicate is a builtin. (Written by gen_fc.py.)
-/
namespace Go.Proofs.YtnmhnaanpjlniaaGreat
open Go.RowKit Go.Maps

/-- what the table has of a predicate -/
def rsF (s : ByteArray) (n : Int) : Int := match rsIdx (prKey s n) with
  | some j => rsW j
  | none => 0
def bltB (s : ByteArray) (n : Int) : Bool := rsF s n == 1

theorem valL_look {l : List (Lit × Value)} {k : Lit} {z : Value} {v : Value} (h : lookL l k (.held z) = .held v) : valL l k z = v := by
  rw [lookL_val] at h
  simpa using h

theorem RsInv.lookup {B : Nat} {w : World} (h : RsInv B 0 (fun _ => true) w) (s : ByteArray) (n : Int) (hs : s.size ≤ maxLen) (hn : (Lit.int .i64 n).wf = true) :
    (Instr.lookup 108 (.map (some B)) (.agg #[.string s, .int .i64 n]) false).run Tryz.prog w = .ok (.int .i64 (rsF s n)) w := by
  obtain ⟨l, hM, _, hl⟩ := h.has
  have h1 := hM.lookup prKeyed Tryz.underlying108 (zeroInt w) (prKey_of s n hs hn)
  have h2 : valL l (prKey s n) (.int .i64 0) = .int .i64 (rsF s n) := by
    apply valL_look
    rw [hl]
    unfold rsLook rsF
    cases rsIdx (prKey s n) <;> simp
  rw [h2] at h1
  exact h1

theorem RsInv.below {B f : Nat} {inn : Nat → Bool} {w w' : World} (h : RsInv B f inn w) (hB : Below w.heap.size w w') : RsInv B f inn w' := by
  obtain ⟨l, hM, _, _⟩ := h.has
  exact h.same (hB.block B hM.lt)

set_option maxRecDepth 100000 in
set_option maxHeartbeats 1000000 in
theorem builtin_any (s : ByteArray) (n : Int) (hs : s.size ≤ maxLen) (hn : (Lit.int .i64 n).wf = true) (w : World) :
    Calls Tryz.prog 39 #[.agg #[.string s, .int .i64 n]] w fun e w' => e = .returned (.bool (bltB s n)) ∧ Below w.heap.size w w' := by
  go_enter Tryz.func39, Tryz.ntmps39
  go_upto_region 1 with fail
  obtain ⟨W0, hW0⟩ : ∃ W0, W0 = w.alloc (.cells #[.string s, .int .i64 n] 69) := ⟨_, rfl⟩
  rw [← hW0]
  have hB0 : Below w.heap.size w W0 := by rw [hW0]; exact (Below.refl _ _).alloc (Nat.le_refl _) _
  have p0 : W0.cell? ⟨w.heap.size, 0, none⟩ = some (.string s) := by rw [hW0]; simp
  have p1 : W0.cell? ⟨w.heap.size, 1, none⟩ = some (.int .i64 n) := by rw [hW0]; simp
  have hz : w.heap.size < W0.heap.size := by rw [hW0]; simp
  have BW := Lib.hid hB0
  have P0 := Lib.hid p0
  have P1 := Lib.hid p1
  clear hW0 hB0 p0 p1
  refine region_by_facts (fun W_ => Below W0.heap.size W0 W_) [fun u W => ∃ B, u = .map (some B) ∧ RsInv B 0 (fun _ => true) W, fun u _ => u = .agg #[.string s, .int .i64 n], fun u _ => u = .int .i64 (rsF s n), fun u _ => u = .bool (rsF s n == 1), fun u _ => u = .bool (rsF s n == 1)]
    ⟨(by rintro v_ w_ x_ ⟨B, h1, h2⟩ hB; exact ⟨B, h1, h2.below hB⟩), .eq _, .eq _, .eq _, .eq _, trivial⟩ (by kernel_rfl) (by kernel_rfl) (by kernel_rfl) ?h0 ?steps ?done
  case h0 => exact (Below.refl _ _).drew
  case steps =>
    refine ⟨?_, ?_, ?_, ?_, ?_, trivial⟩
    · intro g_ W_ hI hd K hK
      simp only [frameOf, Act.put, List.setIfInBounds_toArray, List.set_cons_zero, List.set_cons_succ]
      go_simp
      refine (reserved_any W_).mono ?_
      rintro e w' ⟨rfl, hB, hR⟩
      refine hK.out (.map (some W_.heap.size)) _ _ ?_ (hI.trans (hB.mono hI.size)) hB ⟨_, rfl, hR⟩
      simp only [frameOf, Act.put, List.setIfInBounds_toArray, List.set_cons_zero, List.set_cons_succ, Nat.zero_add, Nat.reduceAdd]
    · intro g_ W_ hI hd K hK
      simp only [frameOf, Act.put, List.setIfInBounds_toArray, List.set_cons_zero, List.set_cons_succ]
      have c0 : W_.cell? ⟨w.heap.size, 0, none⟩ = some (.string s) := (hI.cell (p := ⟨w.heap.size, 0, none⟩) hz).trans P0.out
      have c1 : W_.cell? ⟨w.heap.size, 1, none⟩ = some (.int .i64 n) := (hI.cell (p := ⟨w.heap.size, 1, none⟩) hz).trans P1.out
      go_simp
      refine hK.out (.agg #[.string s, .int .i64 n]) _ W_ ?_ hI (Below.refl _ _) rfl
      simp only [frameOf, Act.put, List.setIfInBounds_toArray, List.set_cons_zero, List.set_cons_succ, Nat.zero_add, Nat.reduceAdd]
    · intro g_ W_ hI hd K hK
      simp only [frameOf, Act.put, List.setIfInBounds_toArray, List.set_cons_zero, List.set_cons_succ]
      obtain ⟨B_, h0, hM_⟩ := hd 0 (by kernel_rfl)
      have h1 : g_ 1 = .agg #[.string s, .int .i64 n] := hd 1 (by kernel_rfl)
      rw [h0, h1]
      have hl := hM_.lookup s n hs hn
      go_simp
      refine hK.out (.int .i64 (rsF s n)) _ W_ ?_ hI (Below.refl _ _) rfl
      simp only [frameOf, Act.put, List.setIfInBounds_toArray, List.set_cons_zero, List.set_cons_succ, Nat.zero_add, Nat.reduceAdd, h0, h1]
    · intro g_ W_ hI hd K hK
      simp only [frameOf, Act.put, List.setIfInBounds_toArray, List.set_cons_zero, List.set_cons_succ]
      have h2 : g_ 2 = .int .i64 (rsF s n) := hd 2 (by kernel_rfl)
      rw [h2]
      go_simp
      refine hK.out (.bool (rsF s n == 1)) _ W_ ?_ hI (Below.refl _ _) rfl
      simp only [frameOf, Act.put, List.setIfInBounds_toArray, List.set_cons_zero, List.set_cons_succ, Nat.zero_add, Nat.reduceAdd, h2]
    · intro g_ W_ hI hd K hK
      simp only [frameOf, Act.put, List.setIfInBounds_toArray, List.set_cons_zero, List.set_cons_succ]
      have h3 : g_ 3 = .bool (rsF s n == 1) := hd 3 (by kernel_rfl)
      rw [h3]
      go_simp
      refine hK.out (.bool (rsF s n == 1)) _ W_ ?_ hI (Below.refl _ _) rfl
      simp only [frameOf, Act.put, List.setIfInBounds_toArray, List.set_cons_zero, List.set_cons_succ, Nat.zero_add, Nat.reduceAdd, h3]
  case done =>
    intro f_ W_ hI hd
    have h4 : f_ 4 = .bool (rsF s n == 1) := hd 4 (by decide)
    simp only [frameOf, Act.put, List.setIfInBounds_toArray, List.set_cons_zero, List.set_cons_succ, Nat.zero_add, Nat.reduceAdd, h4]
    have BB := Lib.hid (BW.out.trans (hI.mono BW.out.size))
    clear hd h4 hI
    go_wp2
    go_ret
    exact ⟨rfl, BB.out⟩


end Go.Proofs.YtnmhnaanpjlniaaGreat
/-
  Do, of each name. (Written by gen_fi.py.)
-/
namespace Go.Proofs.YtnmhnaanpjlniaaGreat
open Go.RowKit Go.Maps

/-- what Do tells of two Args, or of one (a) -/
noncomputable def doV (σ : Sb) (n : Nat) (a b : Nd) : Nat → Bool × Int
  | 2 => (okU (unO σ n a b), gU (unO σ n a b))
  | 3 => doneR (!okU (unO σ n a b), gU (unO σ n a b))
  | 4 => doneR (apP σ a b fun x y => (sameB x y == true, 0))
  | 5 => doneR (apP σ a b fun x y => (sameB x y == false, 0))
  | 6 => doneR (apP σ a b fun x y => ordR 0 (ordN x y))
  | 7 => doneR (apP σ a b fun x y => ordR 1 (ordN x y))
  | 8 => doneR (apP σ a b fun x y => ordR 2 (ordN x y))
  | 9 => doneR (apP σ a b fun x y => ordR 3 (ordN x y))
  | 10 => isR σ n a b
  | 11 => doneR (rkP σ a b (cmpI 0))
  | 12 => doneR (rkP σ a b (cmpI 1))
  | 13 => doneR (rkP σ a b (cmpI 2))
  | 14 => doneR (rkP σ a b (cmpI 3))
  | 15 => doneR (rkP σ a b (cmpI 4))
  | 16 => doneR (rkP σ a b (cmpI 5))
  | 17 => doneR (kindB [1] (wk σ a).k, 0)
  | 18 => doneR (kindB [2, 3, 4] (wk σ a).k, 0)
  | 19 => doneR (kindB [3] (wk σ a).k, 0)
  | 20 => doneR (kindB [2] (wk σ a).k, 0)
  | 21 => doneR (kindB [2, 3] (wk σ a).k, 0)
  | 22 => doneR (kindB [4] (wk σ a).k, 0)
  | _ => (false, 0)

theorem args_two {w : World} {p : Option Addr} {a b : Nd} {r : Ts} (h : Ts.At w p (.cons a.k a.s a.n a.p a.c a.kids (.cons b.k b.s b.n b.p b.c b.kids r))) (hok : Ts.ok (.cons a.k a.s a.n a.p a.c a.kids (.cons b.k b.s b.n b.p b.c b.kids r))) (ha : a.kids.size ≤ 5000) (hb : b.kids.size ≤ 5000) :
    ∃ pb po, p = some ⟨pb, po, none⟩ ∧ ArgEl pb po a w ∧ ArgEl pb (po + 4) b w := by
  obtain ⟨pb, po, hp, h0, h1, h2, h3, h4, g0, g1, g2, g3, g4, -⟩ := h
  rcases hp with hp | rfl
  · cases hp
  refine ⟨pb, po, rfl, ⟨⟨World.block_lt_of_cell? _ _ h0, h0, h1, h2, h3, h4⟩, ⟨hok.1, hok.2.1, hok.2.2.1, hok.2.2.2.1, hok.2.2.2.2.1, hok.2.2.2.2.2.1, trivial⟩, ha⟩, ⟨⟨World.block_lt_of_cell? _ _ g0, g0, g1, g2, g3, g4⟩, ?_, hb⟩⟩
  have h := hok.2.2.2.2.2.2
  exact ⟨h.1, h.2.1, h.2.2.1, h.2.2.2.1, h.2.2.2.2.1, h.2.2.2.2.2.1, trivial⟩

theorem zeroDoing (w : World) : (zeroValue 71).run Tryz.prog w = .ok .nilFunc w := by kernel_rfl
theorem DoIn.lookup {B : Nat} {l : List (Lit × Value)} {w : World} (h : DoIn B 23 l w) (j : Nat) (hj : j < 23) (hs : (doSym j).size ≤ maxLen) :
    ∃ v, doCl B j v w ∧ (Instr.lookup 72 (.map (some B)) (.string (doSym j)) false).run Tryz.prog w = .ok v w := by
  obtain ⟨v, h1, h2⟩ := h.at_ j hj
  refine ⟨v, h1, ?_⟩
  rw [h.map.lookup strKeyed Tryz.underlying72 (zeroDoing w) (doKey_of _ hs)]
  rw [← h2]
  rfl

end Go.Proofs.YtnmhnaanpjlniaaGreat
