import Derived.Test.YtnmhnaanpjlniaaGreatFh
import Derived.Test.YtnmhnaanpjlniaaGreatFd
import Derived.Test.YtnmhnaanpjlniaaGreatTp
import Derived.Test.YtnmhnaanpjlniaaGreatFf
import Derived.Test.YtnmhnaanpjlniaaGreatTf
import Derived.ProofKit
import Derived.SizedLaws
import Derived.ChangeBears2
import Derived.OpenShut
import Derived.Test.YtnmhnaanpjlniaaGreatAx
import Derived.Test.YtnmhnaanpjlniaaGreatFk
/-
  Plain facts of the order as far as it is known.
-/
namespace Go.Proofs.YtnmhnaanpjlniaaGreat
open Go.RowKit

theorem ordH_neg {k k' : Int} {s s' : ByteArray} {n n' : Int} {ts us : Ts} {r r' : Int × Bool} (h : r' = (-r.1, r.2)) : ordH k' k s' s n' n us ts r' = (-(ordH k k' s s' n n' ts us r).1, (ordH k k' s s' n n' ts us r).2) := by
  have e1 : ((k' == 1) && (k == 1)) = ((k == 1) && (k' == 1)) := Bool.and_comm _ _
  have e2 : ((k' == 4) && ((k == 4) && ((s'.toList == s.toList) && decide (us.len = ts.len)))) = ((k == 4) && ((k' == 4) && ((s.toList == s'.toList) && decide (ts.len = us.len)))) := by
    rw [Bool.eq_iff_iff]
    simp only [Bool.and_eq_true, beq_iff_eq, decide_eq_true_eq]
    constructor
    · rintro ⟨h1, h2, h3, h4⟩; exact ⟨h2, h1, h3.symm, h4.symm⟩
    · rintro ⟨h1, h2, h3, h4⟩; exact ⟨h2, h1, h3.symm, h4.symm⟩
  unfold ordH
  rw [e1, e2]
  split
  · simp only [Int.neg_zero]
    rw [show (n' == n) = (n == n') by rw [Bool.eq_iff_iff]; simp only [beq_iff_eq]; exact eq_comm]
  · split
    · exact h
    · simp only
      rw [cmpT_neg (cmpL_neg ts us)]

theorem ordL_neg : ∀ (ts us : Ts), ordL us ts = (-(ordL ts us).1, (ordL ts us).2)
  | .nil, us => by cases us <;> rfl
  | .cons k s n p c ks r, .nil => rfl
  | .cons k s n p c ks r, .cons k' s' n' p' c' ks' r' => by
    have h1 := ordH_neg (k := k) (k' := k') (s := s) (s' := s') (n := n) (n' := n') (ts := ks) (us := ks') (ordL_neg ks ks')
    have h2 := ordL_neg r r'
    simp only [ordL]
    rw [h1, h2]
    have e : (-(ordH k k' s s' n n' ks ks' (ordL ks ks')).1 != 0) = ((ordH k k' s s' n n' ks ks' (ordL ks ks')).1 != 0) := by
      rw [Bool.eq_iff_iff]
      simp only [bne_iff_ne, ne_eq]
      omega
    simp only [e]
    split <;> rfl

theorem ordN_neg (x y : Nd) : ordN y x = (-(ordN x y).1, (ordN x y).2) := by
  unfold ordN
  exact ordH_neg (ordL_neg x.kids y.kids)

/-- what isn't known is told as 0 -/
theorem ordH_no {k k' : Int} {s s' : ByteArray} {n n' : Int} {ts us : Ts} {r : Int × Bool} (hr : r.2 = false → r.1 = 0) (h : (ordH k k' s s' n n' ts us r).2 = false) : (ordH k k' s s' n n' ts us r).1 = 0 := by
  unfold ordH at h ⊢
  split
  · rfl
  · rename_i h1
    rw [if_neg h1] at h
    split
    · rename_i h2
      rw [if_pos h2] at h
      exact hr h
    · rename_i h2
      rw [if_neg h2] at h
      cases h
theorem ordL_no : ∀ (ts us : Ts), (ordL ts us).2 = false → (ordL ts us).1 = 0
  | .nil, us => by cases us <;> exact fun h => by cases h
  | .cons k s n p c ks r, .nil => fun h => by cases h
  | .cons k s n p c ks r, .cons k' s' n' p' c' ks' r' => by
    intro h
    simp only [ordL] at h ⊢
    split
    · rename_i h1
      rw [if_pos h1] at h
      exact ordH_no (ordL_no ks ks') h
    · rename_i h1
      rw [if_neg h1] at h
      exact ordL_no r r' h
theorem ordN_no (x y : Nd) (h : (ordN x y).2 = false) : (ordN x y).1 = 0 := ordH_no (ordL_no _ _) h

theorem headB_str {k : Int} {s : ByteArray} {n : Int} {len : Nat} (h : headB k s n len = true) (hk : k = 4) : n = 0 := by
  subst hk
  unfold headB at h
  simp at h
  exact h.1
theorem headB_v {k : Int} {s : ByteArray} {n : Int} {len : Nat} (h : headB k s n len = true) (hk : (k == 1) = true) : s = ⟨#[]⟩ ∧ len = 0 := headB_name h hk

/-- what is known is the standard order's -/
theorem ordH_std {k k' : Int} {s s' : ByteArray} {n n' : Int} {ts us : Ts} (h1 : headB k s n ts.len = true) (h2 : headB k' s' n' us.len = true) (hr : ts.len = us.len → (ordL ts us).2 = true → (ordL ts us).1 = cmpL ts us) (h : (ordH k k' s s' n n' ts us (ordL ts us)).2 = true) :
    (ordH k k' s s' n n' ts us (ordL ts us)).1 = cmpT k k' s s' n n' ts us (cmpL ts us) := by
  unfold ordH at h ⊢
  split
  · rename_i g
    rw [if_pos g] at h
    rw [Bool.and_eq_true] at g
    obtain ⟨rfl, l1⟩ := headB_v h1 g.1
    obtain ⟨rfl, l2⟩ := headB_v h2 g.2
    have e1 : k = 1 := by simpa using g.1
    have e2 : k' = 1 := by simpa using g.2
    have e3 : n = n' := by simpa using h
    subst e1 e2 e3
    have t1 := Ts.len_zero l1
    have t2 := Ts.len_zero l2
    subst t1 t2
    exact (cmpT_refl 1 ⟨#[]⟩ n .nil).symm
  · rename_i g
    rw [if_neg g] at h
    split
    · rename_i g2
      rw [if_pos g2] at h
      simp only [Bool.and_eq_true, beq_iff_eq, decide_eq_true_eq] at g2
      obtain ⟨e1, e2, e3, e4⟩ := g2
      have n1 := headB_str h1 e1
      have n2 := headB_str h2 e2
      have e5 := (cb_zero s s').2 (by rw [e3]; simp)
      subst e1 e2 n1 n2
      rw [hr e4 h]
      unfold cmpT
      rw [ci_self, ci_self, e4, ci_self, e5]
      simp [or0]
    · rfl
theorem ordL_std : ∀ (ts us : Ts), shapeL ts = true → shapeL us = true → ts.len = us.len → (ordL ts us).2 = true → (ordL ts us).1 = cmpL ts us
  | .nil, us, _, _, _ => by cases us <;> exact fun _ => rfl
  | .cons k s n p c ks r, .nil, _, _, hl => by simp [Ts.len] at hl
  | .cons k s n p c ks r, .cons k' s' n' p' c' ks' r', hs, hs', hl => by
    intro h
    simp only [shapeL, Bool.and_eq_true] at hs hs'
    have IH := ordL_std ks ks' hs.1.1 hs'.1.1
    have IR := ordL_std r r' hs.2 hs'.2 (by simp only [Ts.len] at hl; omega)
    have hh := ordH_std (n := n) (n' := n') hs.1.2 hs'.1.2 IH
    simp only [ordL, cmpL] at h ⊢
    split
    · rename_i g
      rw [if_pos g] at h
      rw [hh h]
      rw [h] at g
      have g1 : (ordH k k' s s' n n' ks ks' (ordL ks ks')).1 ≠ 0 := by simpa using g
      rw [hh h] at g1
      unfold or0
      rw [if_neg g1]
    · rename_i g
      rw [if_neg g] at h
      simp only [Bool.or_eq_true, bne_iff_ne, ne_eq, Bool.not_eq_true', not_or, Decidable.not_not, Bool.not_eq_false] at g
      rw [IR h]
      have g1 := hh g.2
      rw [g.1] at g1
      rw [← g1]
      rfl
theorem ordN_std {x y : Nd} (hx : (shapeL x.kids && headB x.k x.s x.n x.kids.len) = true) (hy : (shapeL y.kids && headB y.k y.s y.n y.kids.len) = true) (h : (ordN x y).2 = true) : (ordN x y).1 = cmpT x.k y.k x.s y.s x.n y.n x.kids y.kids (cmpL x.kids y.kids) := by
  rw [Bool.and_eq_true] at hx hy
  exact ordH_std hx.2 hy.2 (ordL_std _ _ hx.1 hy.1) h

/-- without variables all is known -/
theorem noVar_kids {k : Int} {s : ByteArray} {n : Int} {p : Option Addr} {c : Nat} {ks r : Ts} (h : noVar (nodesOf (.cons k s n p c ks r)) = true) : (k == 1) = false ∧ noVar (nodesOf ks) = true ∧ noVar (nodesOf r) = true := by
  simp only [nodesOf, noVar, List.all_cons, List.all_append, Bool.and_eq_true, Bool.not_eq_true'] at h
  exact ⟨h.1, h.2.1, h.2.2⟩
theorem ordH_known {k k' : Int} {s s' : ByteArray} {n n' : Int} {ts us : Ts} {r : Int × Bool} (h : (k == 1) = false ∨ (k' == 1) = false) (hr : r.2 = true) : (ordH k k' s s' n n' ts us r).2 = true := by
  unfold ordH
  split
  · rename_i g
    rw [Bool.and_eq_true] at g
    rcases h with h | h
    · rw [h] at g; cases g.1
    · rw [h] at g; cases g.2
  · split
    · exact hr
    · rfl
theorem ordL_known : ∀ (ts us : Ts), noVar (nodesOf ts) = true ∨ noVar (nodesOf us) = true → (ordL ts us).2 = true
  | .nil, us, _ => by cases us <;> rfl
  | .cons k s n p c ks r, .nil, _ => rfl
  | .cons k s n p c ks r, .cons k' s' n' p' c' ks' r', h => by
    have h1 : (k == 1) = false ∨ (k' == 1) = false := h.elim (fun h => .inl (noVar_kids h).1) (fun h => .inr (noVar_kids h).1)
    have IK := ordL_known ks ks' (h.elim (fun h => .inl (noVar_kids h).2.1) (fun h => .inr (noVar_kids h).2.1))
    have IR := ordL_known r r' (h.elim (fun h => .inl (noVar_kids h).2.2) (fun h => .inr (noVar_kids h).2.2))
    simp only [ordL]
    split
    · exact ordH_known h1 IK
    · exact IR
theorem ordN_known {x y : Nd} (h : noVar (nodesOf (.cons x.k x.s x.n x.p x.c x.kids .nil)) = true ∨ noVar (nodesOf (.cons y.k y.s y.n y.p y.c y.kids .nil)) = true) : (ordN x y).2 = true :=
  ordH_known (h.elim (fun h => .inl (noVar_kids h).1) (fun h => .inr (noVar_kids h).1)) (ordL_known _ _ (h.elim (fun h => .inl (noVar_kids h).2.1) (fun h => .inr (noVar_kids h).2.1)))

end Go.Proofs.YtnmhnaanpjlniaaGreat
/-
  What a caller may hand in, opened: a term, a list of terms, a text, a number.
-/
namespace Go.Proofs.YtnmhnaanpjlniaaGreat
open Go.ChangeShapes Go.WideShapes Go.ChangeAt Go.RowKit

theorem own : ownKnob Tryz.prog.godebug = none := by kernel_rfl
theorem laidOut : laidOutB Tryz.prog = true := by kernel_rfl

section
variable {H : Type} {enc : TypeId × Value → H}

theorem weights_le {l : List Nat} (h : l.all (· ≤ reachBytes) = true) : ∀ m ∈ l, m ≤ reachBytes := by simpa using h

theorem open_term {w : World} {v : Value} {d : DataW H} {p : List MemPlace} (hv : ∃ cs, v = .agg cs ∧ cs.size = Tryz.prog.cellsOf 25) (h : DataW.Trod enc Tryz.prog w 0 (fun _ => true) true 25 v d p)
    (hw : ∀ m ∈ d.weights Tryz.prog 25, m ≤ reachBytes) :
    ∃ (k : Int) (s : ByteArray) (n : Int) (p : Option Addr) (c : Nat) (ts : Ts), v = tv k s n p ts.len c ∧ Ts.At w p ts ∧ Ts.ok (.cons k s n p c ts .nil) := by
  obtain ⟨cs, rfl, hcs⟩ := hv
  obtain ⟨fuel, hf⟩ := h
  obtain ⟨k, s, n, v, y, m, _, hl, hk, hs, hn, hr, hwr⟩ := open_term_cells hf hw
  obtain ⟨p, ts, c, rfl, hat, hok, hc, hcap, hp⟩ := open_terms m hr hwr
  refine ⟨k, s, n, p, c, ts, ?_, hat, hk, hs, hn, ⟨hc, by omega⟩, hp, hok, trivial⟩
  have : cs.toList = [.int .u8 k, .string s, .int .i64 n, .slice p ts.len c] := by simpa [Value.cells] using hl
  unfold tv
  obtain ⟨l⟩ := cs
  simp only at this
  rw [this]



end
end Go.Proofs.YtnmhnaanpjlniaaGreat
/-
  What a caller may hand in, opened: a list of bindings.
-/
namespace Go.Proofs.YtnmhnaanpjlniaaGreat
open Go.ChangeShapes Go.WideShapes Go.ChangeAt Go.RowKit

section
variable {H : Type} {enc : TypeId × Value → H} {base : Nat} {hd : Bool}

theorem cellsBind : Tryz.prog.cellsOf 56 = 5 := by kernel_rfl
theorem bytesBind : Tryz.prog.bytesOf 56 = 64 := by kernel_rfl

set_option maxRecDepth 4000 in
theorem open_bind_cells {w : World} {fuel : Nat} {cs : List Value} {x : DataW H × List MemPlace} (h : DataW.trod enc Tryz.prog w base (fun _ => true) hd fuel 56 cs = some x)
    (hw : ∀ m ∈ x.1.weights Tryz.prog 56, m ≤ reachBytes) :
    ∃ (v : Int) (y : Nd), cs = [.int .i64 v, .int .u8 y.k, .string y.s, .int .i64 y.n, .slice y.p y.kids.len y.c] ∧ (-9223372036854775808 ≤ v ∧ v ≤ 9223372036854775807) ∧ Ts.At w y.p y.kids ∧ y.ok := by
  obtain ⟨xs, m, rfl, rfl, hl, hlen, hf⟩ := DataW.trod_struct Tryz.underlying56 h
  rw [cellsBind] at hl
  match cs, hl with
  | [c0, c1, c2, c3, c4], _ =>
    match xs, hlen with
    | [x0, x1], _ =>
      have f0 : DataW.trod enc Tryz.prog w base (fun _ => true) hd m 2 [c0] = some x0 := by have := hf 0 _ rfl; simpa [cellsI64] using this
      have f1 : DataW.trod enc Tryz.prog w base (fun _ => true) hd m 25 [c1, c2, c3, c4] = some x1 := by have := hf 1 _ rfl; simpa [cellsI64, cellsTerm] using this
      obtain ⟨n, e0, _, w0⟩ := DataW.trod_int Tryz.underlying2 f0
      simp only [List.cons.injEq, and_true] at e0
      subst e0
      have hin : ∀ q, q ∈ DataW.weightsEach Tryz.prog [2, 25] [x0.1, x1.1] → q ≤ reachBytes := fun q hq => by
        refine hw q ?_
        simp only [List.map_cons, List.map_nil, DataW.weights, Tryz.underlying56]
        exact hq
      obtain ⟨k, s, m', v', y', f, hf, e, hk, hs, hm', hkid, hkw⟩ := open_term_cells f1 (fun q hq => hin q (DataW.weights_mem_each (j := 1) rfl rfl q hq))
      obtain ⟨p, ks, kc, rfl, hat, hok, hkl, hkc, hpn⟩ := open_terms f hkid hkw
      exact ⟨n, ⟨k, s, m', p, kc, ks⟩, by rw [e], i64_of_wf w0, hat, hk, hs, hm', ⟨hkl, by simp only; omega⟩, hpn, hok, trivial⟩

set_option maxRecDepth 100000 in
/-- whatever reads as a list of bindings lies as one -/
theorem open_binds {w : World} {fuel : Nat} {v : Value} {x : DataW H × List MemPlace} (h : DataW.trod enc Tryz.prog w base (fun _ => true) hd fuel 22 [v] = some x)
    (hw : ∀ m ∈ x.1.weights Tryz.prog 22, m ≤ reachBytes) :
    ∃ (p : Option Addr) (l : List (Int × Nd)) (cap : Nat), v = .slice p l.length cap ∧ BsAt w p l ∧ (bsTs l).ok ∧ l.length ≤ 9223372036854775807 ∧ ∀ e ∈ l, -9223372036854775808 ≤ e.1 ∧ e.1 ≤ 9223372036854775807 := by
  rcases DataW.trod_slice Tryz.underlying22 h with ⟨hcs, rfl⟩ | ⟨a, len, cap, elems, rest, n, rfl, hcs, rfl, hb, hl, hm, hlen, hel, hsp, _⟩
  · simp only [List.cons.injEq, and_true] at hcs
    subst hcs
    exact ⟨none, [], 0, rfl, ⟨0, 0, .inl rfl, trivial⟩, trivial, by simp, fun e he => by cases he⟩
  · simp only [List.cons.injEq, and_true] at hcs
    subst hcs
    have hrest := (hsp rfl).1
    have hW : ∀ q, q ∈ ((elems.map (·.1)).length + (rest.map (·.1)).length) * 64 :: (DataW.weightsAll Tryz.prog 56 (elems.map (·.1)) ++ DataW.weightsAll Tryz.prog 56 (rest.map (·.1))) → q ≤ reachBytes := fun q hq => by
      refine hw q ?_
      simp only [DataW.weights, Tryz.underlying22, bytesBind]
      exact hq
    have hcap : cap * 64 ≤ 140737488351232 := by
      have h1 := hW _ (List.mem_cons_self ..)
      simp only [List.length_map, hlen, hrest] at h1
      rw [reach_eq] at h1
      rw [show len + (cap - len) = cap from by omega] at h1
      exact h1
    have hspot0 : 0 < len → a.spot = none := fun h0 => by
      have hi := hel 0 h0
      have hlt : 0 < elems.length := by omega
      rw [List.getElem?_eq_getElem hlt] at hi
      obtain ⟨cs, hcs, _⟩ := Option.bind_eq_some_iff.1 hi
      rw [cellsBind] at hcs
      obtain ⟨_, hcl, hcell⟩ := World.cells?_some hcs
      have h1 := hcell 0 (by omega)
      rw [List.getElem?_eq_getElem (by omega)] at h1
      have h2 := World.cell?_spot h1
      simpa [Addr.add] using h2
    have build : ∀ j, j ≤ len → ∃ l : List (Int × Nd), l.length = j ∧ BsLies w a.block (a.off + 5 * (len - j)) l ∧ (bsTs l).ok ∧ (l = [] ∨ a.spot = none) ∧ ∀ e ∈ l, -9223372036854775808 ≤ e.1 ∧ e.1 ≤ 9223372036854775807 := by
      intro j
      induction j with
      | zero => exact fun _ => ⟨[], rfl, trivial, trivial, .inl rfl, fun e he => by cases he⟩
      | succ j ihj =>
        intro hj
        obtain ⟨l, h1, h2, h3, _, h5⟩ := ihj (by omega)
        have hi := hel (len - (j + 1)) (by omega)
        have hget : ∃ y, elems[len - (j + 1)]? = some y ∧ y ∈ elems := by
          have hlt : len - (j + 1) < elems.length := by omega
          exact ⟨elems[len - (j + 1)], List.getElem?_eq_getElem hlt, List.getElem_mem hlt⟩
        obtain ⟨y, hy, hmem⟩ := hget
        rw [hy] at hi
        obtain ⟨cs, hcs, hread⟩ := Option.bind_eq_some_iff.1 hi
        rw [cellsBind] at hcs
        obtain ⟨_, hcl, hcell⟩ := World.cells?_some hcs
        obtain ⟨v, z, rfl, hv, hat, hok⟩ := open_bind_cells hread (fun q hq => hW q (List.mem_cons_of_mem _ (List.mem_append_left _ (weights_all (List.mem_map.2 ⟨y, hmem, rfl⟩) q hq))))
        have hspot := hspot0 (by omega)
        obtain ⟨b, off, spot⟩ := a
        simp only at hspot
        subst hspot
        have c0 := hcell 0 (by omega)
        have c1 := hcell 1 (by omega)
        have c2 := hcell 2 (by omega)
        have c3 := hcell 3 (by omega)
        have c4 := hcell 4 (by omega)
        simp only [add_plain, List.getElem?_cons_zero, List.getElem?_cons_succ] at c0 c1 c2 c3 c4
        have eo : off + (len - (j + 1)) * 5 = off + 5 * (len - (j + 1)) := by omega
        rw [eo] at c0 c1 c2 c3 c4
        refine ⟨(v, z) :: l, by simp [h1], ⟨c0, c1, c2, c3, c4, hat, ?_⟩, ⟨hok.1, hok.2.1, hok.2.2.1, hok.2.2.2.1, hok.2.2.2.2.1, hok.2.2.2.2.2.1, h3⟩, .inr rfl, fun e he => ?_⟩
        · rw [show off + 5 * (len - (j + 1)) + 5 = off + 5 * (len - j) from by omega]
          exact h2
        · rcases List.mem_cons.1 he with rfl | he
          · exact hv
          · exact h5 e he
    obtain ⟨l, h1, h2, h3, h4, h5⟩ := build len (Nat.le_refl _)
    refine ⟨some a, l, cap, by rw [h1], ?_, h3, by omega, h5⟩
    rcases h4 with rfl | h4
    · exact ⟨0, 0, .inl rfl, trivial⟩
    · obtain ⟨b, off, spot⟩ := a
      simp only at h4
      subst h4
      rw [show off + 5 * (len - len) = off from by omega] at h2
      exact ⟨b, off, .inr rfl, h2⟩

theorem open_bs {w : World} {v : Value} {d : DataW H} {p : List MemPlace} (hv : ∃ a len cap, v = .slice a len cap) (h : DataW.Trod enc Tryz.prog w 0 (fun _ => true) true 22 v d p)
    (hw : ∀ m ∈ d.weights Tryz.prog 22, m ≤ reachBytes) :
    ∃ (p : Option Addr) (l : List (Int × Nd)) (c : Nat), v = .slice p l.length c ∧ BsAt w p l ∧ (bsTs l).ok ∧ l.length ≤ 9223372036854775807 ∧ ∀ e ∈ l, -9223372036854775808 ≤ e.1 ∧ e.1 ≤ 9223372036854775807 := by
  obtain ⟨a, len, cap, rfl⟩ := hv
  obtain ⟨fuel, hf⟩ := h
  exact open_binds (by simpa [Value.cells] using hf) hw
end

end Go.Proofs.YtnmhnaanpjlniaaGreat
/-
  The law BuiltinGround, walked. (Written by gen_fn.py.)
-/
namespace Go.Proofs.YtnmhnaanpjlniaaGreat
open Go.RowKit

theorem nd_facts {a : Nd} (h : a.ok) : (0 ≤ a.k ∧ a.k ≤ 255) ∧ a.s.size ≤ 140737488351232 ∧ (-9223372036854775808 ≤ a.n ∧ a.n ≤ 9223372036854775807) ∧ (a.kids.len ≤ a.c ∧ a.c ≤ 9223372036854775807) ∧ (a.p = none → a.c = 0) := ⟨h.1, h.2.1, h.2.2.1, h.2.2.2.1, h.2.2.2.2.1⟩

theorem ordL_range : ∀ (ts us : Ts), -1 ≤ (ordL ts us).1 ∧ (ordL ts us).1 ≤ 1
  | .nil, us => by cases us <;> exact ⟨(by decide : (-1 : Int) ≤ 0), (by decide : (0 : Int) ≤ 1)⟩
  | .cons k s n p c ks r, .nil => ⟨(by decide : (-1 : Int) ≤ 0), (by decide : (0 : Int) ≤ 1)⟩
  | .cons k s n p c ks r, .cons k' s' n' p' c' ks' r' => by
    have h1 := ordL_range ks ks'
    have h2 := ordL_range r r'
    have h3 : -1 ≤ (ordH k k' s s' n n' ks ks' (ordL ks ks')).1 ∧ (ordH k k' s s' n n' ks ks' (ordL ks ks')).1 ≤ 1 := by
      unfold ordH
      split
      · exact ⟨(by decide : (-1 : Int) ≤ 0), (by decide : (0 : Int) ≤ 1)⟩
      · split
        · exact h1
        · exact cmpT_range (cmpL_range _ _)
    simp only [ordL]
    split
    · exact h3
    · exact h2
theorem ordN_range (x y : Nd) : -1 ≤ (ordN x y).1 ∧ (ordN x y).1 ≤ 1 := by
  unfold ordN ordH
  split
  · exact ⟨(by decide : (-1 : Int) ≤ 0), (by decide : (0 : Int) ≤ 1)⟩
  · split
    · exact ordL_range _ _
    · exact cmpT_range (cmpL_range _ _)

set_option maxRecDepth 100000 in
set_option maxHeartbeats 16000000 in
theorem builtinGround_true (l : List (Int × Nd)) (hl63 : l.length ≤ 9223372036854775807) (hbok : (bsTs l).ok) (a b : Nd) (w : World) (lp : Option Addr) (lc : Nat) (hatl : BsAt w lp l) (hoka : Ts.ok (.cons a.k a.s a.n a.p a.c a.kids .nil)) (hata : Ts.At w a.p a.kids) (hokb : Ts.ok (.cons b.k b.s b.n b.p b.c b.kids .nil)) (hatb : Ts.At w b.p b.kids) :
    Calls Tryz.prog 5 #[.slice lp l.length lc, .agg #[.int .u8 a.k, .string a.s, .int .i64 a.n, .slice a.p a.kids.len a.c], .agg #[.int .u8 b.k, .string b.s, .int .i64 b.n, .slice b.p b.kids.len b.c]] w fun e w' => e = .returned (.bool true) ∧ Below w.heap.size w w' := by
  have BOK := Lib.hid hbok
  have ATl := Lib.hid hatl
  have OKa := Lib.hid (show a.ok from hoka)
  have OKb := Lib.hid (show b.ok from hokb)
  have ATa := Lib.hid hata
  have ATb := Lib.hid hatb
  clear hbok hatl hoka hokb hata hatb
  go_enter Tryz.func5, Tryz.ntmps5
  go_upto_region 1 with fail
  obtain ⟨W2, hW2, hB, hba, hbb⟩ := box2N w a b 25
  rw [← hW2]
  have XT := Lib.hid hba
  have XO := Lib.hid hbb
  have BW := Lib.hid hB
  clear hba hbb hB hW2
  have c0 := XT.out.c0
  have c1 := XT.out.c1
  have c2 := XT.out.c2
  have c3 := XT.out.c3
  go_wp2_with fail
  refine (bgreat_any l a hl63 BOK.out W2 lp lc (ATl.out.below BW.out) OKa.out (ATa.out.below BW.out)).mono ?_
  rintro e w2 ⟨rfl, hI⟩
  replace XT := Lib.hid (XT.out.below hI)
  replace XO := Lib.hid (XO.out.below hI)
  replace BW := Lib.hid (BW.out.trans (hI.mono BW.out.size))
  clear hI
  clear c0 c1 c2 c3
  obtain ⟨ga0, hga0⟩ : ∃ g, g = bGreat l a := ⟨_, rfl⟩
  rw [← hga0]
  have Gga0 := Lib.hid hga0
  clear hga0
  cases ga0 with
  | true =>
    go_wp2_with fail
    refine (wakes14_any _).mono ?_
    rintro e we ⟨rfl, hB⟩
    replace BW := Lib.hid (BW.out.trans (hB.mono BW.out.size))
    clear hB
    go_wp2
    go_ret
    exact ⟨rfl, BW.out⟩
  | false =>
  have c0 := XO.out.c0
  have c1 := XO.out.c1
  have c2 := XO.out.c2
  have c3 := XO.out.c3
  go_wp2_with fail
  refine (bgreat_any [] b (by simp) trivial w2 none 0 ⟨0, 0, .inl rfl, trivial⟩ OKb.out (ATb.out.below BW.out)).mono ?_
  rintro e w3 ⟨rfl, hI⟩
  replace XT := Lib.hid (XT.out.below hI)
  replace XO := Lib.hid (XO.out.below hI)
  replace BW := Lib.hid (BW.out.trans (hI.mono BW.out.size))
  clear hI
  clear c0 c1 c2 c3
  obtain ⟨gb0, hgb0⟩ : ∃ g, g = bGreat [] b := ⟨_, rfl⟩
  rw [← hgb0]
  have Ggb0 := Lib.hid hgb0
  clear hgb0
  cases gb0 with
  | true =>
    go_wp2_with fail
    refine (wakes14_any _).mono ?_
    rintro e we ⟨rfl, hB⟩
    replace BW := Lib.hid (BW.out.trans (hB.mono BW.out.size))
    clear hB
    go_wp2
    go_ret
    exact ⟨rfl, BW.out⟩
  | false =>
  have hsa0 := bGreat_1000 Gga0.out.symm
  have hsb0 := bGreat_1000 Ggb0.out.symm
  have c0 := XT.out.c0
  have c1 := XT.out.c1
  have c2 := XT.out.c2
  have c3 := XT.out.c3
  go_wp2_with fail
  refine (rGood_any a.kids (by omega) OKa.out.2.2.2.2.2.1 a.k a.s a.n w3 a.p a.c OKa.out.2.1 (ATa.out.below BW.out)).mono ?_
  rintro e w4 ⟨rfl, hI⟩
  replace XT := Lib.hid (XT.out.below hI)
  replace XO := Lib.hid (XO.out.below hI)
  replace BW := Lib.hid (BW.out.trans (hI.mono BW.out.size))
  clear hI
  clear c0 c1 c2 c3
  obtain ⟨ga, hga⟩ : ∃ g, g = goodB 64 a.k a.s a.n a.kids := ⟨_, rfl⟩
  rw [← hga]
  have Ga := Lib.hid hga
  clear hga
  cases ga with
  | false =>
    go_wp2_with fail
    refine (wakes14_any _).mono ?_
    rintro e we ⟨rfl, hB⟩
    replace BW := Lib.hid (BW.out.trans (hB.mono BW.out.size))
    clear hB
    go_wp2
    go_ret
    exact ⟨rfl, BW.out⟩
  | true =>
  have c0 := XO.out.c0
  have c1 := XO.out.c1
  have c2 := XO.out.c2
  have c3 := XO.out.c3
  go_wp2_with fail
  refine (rGood_any b.kids (by omega) OKb.out.2.2.2.2.2.1 b.k b.s b.n w4 b.p b.c OKb.out.2.1 (ATb.out.below BW.out)).mono ?_
  rintro e w5 ⟨rfl, hI⟩
  replace XT := Lib.hid (XT.out.below hI)
  replace XO := Lib.hid (XO.out.below hI)
  replace BW := Lib.hid (BW.out.trans (hI.mono BW.out.size))
  clear hI
  clear c0 c1 c2 c3
  obtain ⟨gb, hgb⟩ : ∃ g, g = goodB 64 b.k b.s b.n b.kids := ⟨_, rfl⟩
  rw [← hgb]
  have Gb := Lib.hid hgb
  clear hgb
  cases gb with
  | false =>
    go_wp2_with fail
    refine (wakes14_any _).mono ?_
    rintro e we ⟨rfl, hB⟩
    replace BW := Lib.hid (BW.out.trans (hB.mono BW.out.size))
    clear hB
    go_wp2
    go_ret
    exact ⟨rfl, BW.out⟩
  | true =>
  obtain ⟨x, hx⟩ : ∃ x, x = ordN a b := ⟨_, rfl⟩
  have XE := Lib.hid hx
  clear hx
  have c0 := XT.out.c0
  have c1 := XT.out.c1
  have c2 := XT.out.c2
  have c3 := XT.out.c3
  have d0 := XO.out.c0
  have d1 := XO.out.c1
  have d2 := XO.out.c2
  have d3 := XO.out.c3
  go_wp2_with fail
  refine (tord_any _ a.kids b.kids (Nat.lt_succ_self _) (by omega) a.k b.k a.s b.s a.n b.n w5 a.p b.p a.c b.c OKa.out OKb.out (ATa.out.below BW.out) (ATb.out.below BW.out)).mono ?_
  rintro e w6 ⟨rfl, hI⟩
  rw [show ordH a.k b.k a.s b.s a.n b.n a.kids b.kids (ordL a.kids b.kids) = x from XE.out.symm]
  replace XT := Lib.hid (XT.out.below hI)
  replace XO := Lib.hid (XO.out.below hI)
  replace BW := Lib.hid (BW.out.trans (hI.mono BW.out.size))
  clear hI
  clear c0 c1 c2 c3 d0 d1 d2 d3
  have c0 := XT.out.c0
  have c1 := XT.out.c1
  have c2 := XT.out.c2
  have c3 := XT.out.c3
  have d0 := XO.out.c0
  have d1 := XO.out.c1
  have d2 := XO.out.c2
  have d3 := XO.out.c3
  go_wp2_with fail
  refine (tord_any _ b.kids a.kids (Nat.lt_succ_self _) (by omega) b.k a.k b.s a.s b.n a.n w6 b.p a.p b.c a.c OKb.out OKa.out (ATb.out.below BW.out) (ATa.out.below BW.out)).mono ?_
  rintro e w7 ⟨rfl, hI⟩
  rw [show ordH b.k a.k b.s a.s b.n a.n b.kids a.kids (ordL b.kids a.kids) = (-x.1, x.2) by rw [XE.out]; exact ordN_neg a b]
  replace XT := Lib.hid (XT.out.below hI)
  replace XO := Lib.hid (XO.out.below hI)
  replace BW := Lib.hid (BW.out.trans (hI.mono BW.out.size))
  clear hI
  clear c0 c1 c2 c3 d0 d1 d2 d3
  have XR : Hid (-1 ≤ x.1 ∧ x.1 ≤ 1) := Lib.hid (by rw [XE.out]; exact ordN_range a b)
  obtain ⟨d, v⟩ := x
  have hd1 : -1 ≤ d := XR.out.1
  have hd2 : d ≤ 1 := XR.out.2
  have e2 : (v != v) = false := by simp
  have e3 : (d != - -d) = false := by simp
  have e4 : (d != d) = false := by simp
  go_upto_region 7 with fail
  have c0 := XT.out.c0
  have c1 := XT.out.c1
  have c2 := XT.out.c2
  have c3 := XT.out.c3
  go_wp2_with fail
  refine (tground_any a.kids (by omega) OKa.out.2.2.2.2.2.1 a.k a.s a.n w7 a.p a.c (nd_facts OKa.out).1 (nd_facts OKa.out).2.1 (nd_facts OKa.out).2.2.1 (nd_facts OKa.out).2.2.2.1 (nd_facts OKa.out).2.2.2.2 (ATa.out.below BW.out)).mono ?_
  rintro e w8 ⟨rfl, hI⟩
  replace XT := Lib.hid (XT.out.below hI)
  replace XO := Lib.hid (XO.out.below hI)
  replace BW := Lib.hid (BW.out.trans (hI.mono BW.out.size))
  clear hI
  clear c0 c1 c2 c3
  obtain ⟨na, hna⟩ : ∃ g, g = noVar (nodesOf (.cons a.k a.s a.n a.p a.c a.kids .nil)) := ⟨_, rfl⟩
  rw [← hna]
  have NA := Lib.hid hna
  clear hna
  have CMP := Lib.hid (fun (w : World) (ha : Ts.At w a.p a.kids) (hb : Ts.At w b.p b.kids) => compare_any (k := a.k) (k' := b.k) (s := a.s) (s' := b.s) (n := a.n) (n' := b.n) (p := a.p) (p' := b.p) (c := a.c) (c' := b.c) (ts := a.kids) (us := b.kids) (W := w) (by omega) OKa.out.2.2.2.2.2.1 OKb.out.2.2.2.2.2.1 ha hb)
  have STD : Hid (v = true → cmpT a.k b.k a.s b.s a.n b.n a.kids b.kids (cmpL a.kids b.kids) = d) := Lib.hid (fun h => by
    have := ordN_std (good_shape Ga.out.symm) (good_shape Gb.out.symm) (by rw [← XE.out]; exact h)
    rw [← this, ← XE.out])
  have NO : Hid (v = false → d = 0) := Lib.hid (fun h => by
    have := ordN_no a b (by rw [← XE.out]; exact h)
    rw [← XE.out] at this
    exact this)
  cases na with
  | true =>
    have hv : v = true := by
      have := ordN_known (x := a) (y := b) (.inl NA.out.symm)
      rw [← XE.out] at this
      exact this
    subst hv
    have c0 := XT.out.c0
    have c1 := XT.out.c1
    have c2 := XT.out.c2
    have c3 := XT.out.c3
    have d0 := XO.out.c0
    have d1 := XO.out.c1
    have d2 := XO.out.c2
    have d3 := XO.out.c3
    go_wp2_with fail
    refine (CMP.out _ (ATa.out.below BW.out) (ATb.out.below BW.out)).mono ?_
    rintro e wc ⟨rfl, hI⟩
    rw [STD.out (by first | rfl | trivial)]
    replace BW := Lib.hid (BW.out.trans (hI.mono BW.out.size))
    clear hI
    clear c0 c1 c2 c3 d0 d1 d2 d3
    have e6 : (d == d) = true := by simp
    go_wp2_with fail
    refine (wakes14_any _).mono ?_
    rintro e we ⟨rfl, hB⟩
    replace BW := Lib.hid (BW.out.trans (hB.mono BW.out.size))
    clear hB
    go_wp2
    go_ret
    exact ⟨rfl, BW.out⟩
  | false =>
    have c0 := XO.out.c0
    have c1 := XO.out.c1
    have c2 := XO.out.c2
    have c3 := XO.out.c3
    go_wp2_with fail
    refine (tground_any b.kids (by omega) OKb.out.2.2.2.2.2.1 b.k b.s b.n w8 b.p b.c (nd_facts OKb.out).1 (nd_facts OKb.out).2.1 (nd_facts OKb.out).2.2.1 (nd_facts OKb.out).2.2.2.1 (nd_facts OKb.out).2.2.2.2 (ATb.out.below BW.out)).mono ?_
    rintro e w9 ⟨rfl, hI⟩
    replace XT := Lib.hid (XT.out.below hI)
    replace XO := Lib.hid (XO.out.below hI)
    replace BW := Lib.hid (BW.out.trans (hI.mono BW.out.size))
    clear hI
    clear c0 c1 c2 c3
    obtain ⟨nb, hnb⟩ : ∃ g, g = noVar (nodesOf (.cons b.k b.s b.n b.p b.c b.kids .nil)) := ⟨_, rfl⟩
    rw [← hnb]
    have NB := Lib.hid hnb
    clear hnb
    cases nb with
    | true =>
      have hv : v = true := by
        have := ordN_known (x := a) (y := b) (.inr NB.out.symm)
        rw [← XE.out] at this
        exact this
      subst hv
      have c0 := XT.out.c0
      have c1 := XT.out.c1
      have c2 := XT.out.c2
      have c3 := XT.out.c3
      have d0 := XO.out.c0
      have d1 := XO.out.c1
      have d2 := XO.out.c2
      have d3 := XO.out.c3
      go_wp2_with fail
      refine (CMP.out _ (ATa.out.below BW.out) (ATb.out.below BW.out)).mono ?_
      rintro e wc ⟨rfl, hI⟩
      rw [STD.out (by first | rfl | trivial)]
      replace BW := Lib.hid (BW.out.trans (hI.mono BW.out.size))
      clear hI
      clear c0 c1 c2 c3 d0 d1 d2 d3
      have e6 : (d == d) = true := by simp
      go_wp2_with fail
      refine (wakes14_any _).mono ?_
      rintro e we ⟨rfl, hB⟩
      replace BW := Lib.hid (BW.out.trans (hB.mono BW.out.size))
      clear hB
      go_wp2
      go_ret
      exact ⟨rfl, BW.out⟩
    | false =>
      cases v with
      | true =>
        have c0 := XT.out.c0
        have c1 := XT.out.c1
        have c2 := XT.out.c2
        have c3 := XT.out.c3
        have d0 := XO.out.c0
        have d1 := XO.out.c1
        have d2 := XO.out.c2
        have d3 := XO.out.c3
        go_wp2_with fail
        refine (CMP.out _ (ATa.out.below BW.out) (ATb.out.below BW.out)).mono ?_
        rintro e wc ⟨rfl, hI⟩
        rw [STD.out (by first | rfl | trivial)]
        replace BW := Lib.hid (BW.out.trans (hI.mono BW.out.size))
        clear hI
        clear c0 c1 c2 c3 d0 d1 d2 d3
        have e6 : (d == d) = true := by simp
        go_wp2_with fail
        refine (wakes14_any _).mono ?_
        rintro e we ⟨rfl, hB⟩
        replace BW := Lib.hid (BW.out.trans (hB.mono BW.out.size))
        clear hB
        go_wp2
        go_ret
        exact ⟨rfl, BW.out⟩
      | false =>
        have hd0 := NO.out (by first | rfl | trivial)
        subst hd0
        go_wp2_with fail
        refine (wakes14_any _).mono ?_
        rintro e we ⟨rfl, hB⟩
        replace BW := Lib.hid (BW.out.trans (hB.mono BW.out.size))
        clear hB
        go_wp2
        go_ret
        exact ⟨rfl, BW.out⟩

theorem builtinGround_w (w : World) (lp : Option Addr) (l : List (Int × Nd)) (lc : Nat) (k : Int) (s : ByteArray) (n : Int) (p : Option Addr) (c : Nat) (ts : Ts) (k' : Int) (s' : ByteArray) (n' : Int) (p' : Option Addr) (c' : Nat) (ts' : Ts)
    (hat : BsAt w lp l) (hbok : (bsTs l).ok) (hl : l.length ≤ 9223372036854775807) (hvr : ∀ e ∈ l, -9223372036854775808 ≤ e.1 ∧ e.1 ≤ 9223372036854775807) (hok : Ts.ok (.cons k s n p c ts .nil)) (hta : Ts.At w p ts) (hok' : Ts.ok (.cons k' s' n' p' c' ts' .nil)) (hta' : Ts.At w p' ts') :
    Calls Tryz.prog 5 #[.slice lp l.length lc, tv k s n p ts.len c, tv k' s' n' p' ts'.len c'] w fun e w' => e = .returned (.bool true) ∧ Below w.heap.size w w' :=
  builtinGround_true l hl hbok ⟨k, s, n, p, c, ts⟩ ⟨k', s', n', p', c', ts'⟩ w lp lc hat hok hta hok' hta'

end Go.Proofs.YtnmhnaanpjlniaaGreat
