import Derived.Test.YtnmhnaanpjlniaaTd
import Derived.ProofKit
import Derived.SizedLaws
import Derived.ChangeBears2
import Derived.OpenShut
import Derived.Test.YtnmhnaanpjlniaaAx
import Derived.Test.YtnmhnaanpjlniaaEj
import Derived.Test.YtnmhnaanpjlniaaEp
import Derived.Test.YtnmhnaanpjlniaaBa
/-
  What a caller may hand in, opened: a term, a list of terms, a text, a number.
-/
namespace Go.Proofs.Ytnmhnaanpjlniaa
open Go.ChangeShapes Go.WideShapes Go.ChangeAt Go.RowKit

theorem own : ownKnob Try.prog.godebug = none := by kernel_rfl
theorem laidOut : laidOutB Try.prog = true := by kernel_rfl

section
variable {H : Type} {enc : TypeId × Value → H}

theorem weights_le {l : List Nat} (h : l.all (· ≤ reachBytes) = true) : ∀ m ∈ l, m ≤ reachBytes := by simpa using h

theorem open_term {w : World} {v : Value} {d : DataW H} {p : List MemPlace} (hv : ∃ cs, v = .agg cs ∧ cs.size = Try.prog.cellsOf 25) (h : DataW.Trod enc Try.prog w 0 (fun _ => true) true 25 v d p)
    (hw : ∀ m ∈ d.weights Try.prog 25, m ≤ reachBytes) :
    ∃ (k : Int) (s : ByteArray) (n : Int) (p : Option Addr) (c : Nat) (ts : Ts), v = tv k s n p ts.len c ∧ Ts.At w p ts ∧ Ts.ok (.cons k s n p c ts .nil) := by
  obtain ⟨cs, rfl, hcs⟩ := hv
  obtain ⟨fuel, hf⟩ := h
  obtain ⟨k, s, n, v, y, m, _, hl, hk, hs, hn, hr, hwr⟩ := open_term_cells hf hw
  obtain ⟨p, ts, c, rfl, hat, hok, hc, hcap, hp⟩ := open_terms m hr hwr
  refine ⟨k, s, n, p, c, ts, ?_, hat, hk, hs, hn, ⟨hc, by omega⟩, hp, hok, trivial⟩
  have : cs.toList = [.int .u8 k, .string s, .int .i64 n, .slice p ts.len c] := by simpa [Value.cells] using hl
  unfold tv
  obtain ⟨l⟩ := cs
  simp only at this
  rw [this]

theorem open_list {w : World} {v : Value} {d : DataW H} {p : List MemPlace} (hv : ∃ a len cap, v = .slice a len cap) (h : DataW.Trod enc Try.prog w 0 (fun _ => true) true 23 v d p)
    (hw : ∀ m ∈ d.weights Try.prog 23, m ≤ reachBytes) :
    ∃ (p : Option Addr) (ts : Ts) (c : Nat), v = .slice p ts.len c ∧ Ts.At w p ts ∧ ts.ok ∧ (ts.len ≤ c ∧ c ≤ 9223372036854775807) ∧ (p = none → c = 0) := by
  obtain ⟨a, len, cap, rfl⟩ := hv
  obtain ⟨fuel, hf⟩ := h
  obtain ⟨p, ts, c, e, hat, hok, hc, hcap, hp⟩ := open_terms fuel (v := .slice a len cap) (by simpa [Value.cells] using hf) hw
  exact ⟨p, ts, c, e, hat, hok, ⟨hc, by omega⟩, hp⟩

theorem open_num {w : World} {v : Value} {d : DataW H} {p : List MemPlace} (hv : ∃ n, v = .int .i64 n) (h : DataW.Trod enc Try.prog w 0 (fun _ => true) true 2 v d p) :
    ∃ n, v = .int .i64 n ∧ (-9223372036854775808 ≤ n ∧ n ≤ 9223372036854775807) := by
  obtain ⟨n, rfl⟩ := hv
  obtain ⟨fuel, hf⟩ := h
  obtain ⟨n', e, _, w2⟩ := DataW.trod_int Try.underlying2 hf
  simp [Value.cells] at e
  subst e
  exact ⟨_, rfl, i64_of_wf w2⟩

theorem open_str {w : World} {v : Value} {d : DataW H} {p : List MemPlace} (hv : ∃ s, v = .string s) (h : DataW.Trod enc Try.prog w 0 (fun _ => true) true 9 v d p)
    (hw : ∀ m ∈ d.weights Try.prog 9, m ≤ reachBytes) :
    ∃ s, v = .string s ∧ s.size ≤ 140737488351232 := by
  obtain ⟨s, rfl⟩ := hv
  obtain ⟨fuel, hf⟩ := h
  obtain ⟨s', e, hx, _⟩ := DataW.trod_string Try.underlying9 hf
  simp [Value.cells] at e
  subst e
  refine ⟨_, rfl, ?_⟩
  simp only [Prod.mk.injEq] at hx
  have := hw s.data.toList.length (by rw [hx.1]; simp [DataW.weights])
  rw [reach_eq] at this
  simpa using this
end
end Go.Proofs.Ytnmhnaanpjlniaa
/-
  What a caller may hand in, opened: a list of bindings.
-/
namespace Go.Proofs.Ytnmhnaanpjlniaa
open Go.ChangeShapes Go.WideShapes Go.ChangeAt Go.RowKit

section
variable {H : Type} {enc : TypeId × Value → H} {base : Nat} {hd : Bool}

theorem cellsBind : Try.prog.cellsOf 62 = 5 := by kernel_rfl
theorem bytesBind : Try.prog.bytesOf 62 = 64 := by kernel_rfl

set_option maxRecDepth 4000 in
theorem open_bind_cells {w : World} {fuel : Nat} {cs : List Value} {x : DataW H × List MemPlace} (h : DataW.trod enc Try.prog w base (fun _ => true) hd fuel 62 cs = some x)
    (hw : ∀ m ∈ x.1.weights Try.prog 62, m ≤ reachBytes) :
    ∃ (v : Int) (y : Nd), cs = [.int .i64 v, .int .u8 y.k, .string y.s, .int .i64 y.n, .slice y.p y.kids.len y.c] ∧ (-9223372036854775808 ≤ v ∧ v ≤ 9223372036854775807) ∧ Ts.At w y.p y.kids ∧ y.ok := by
  obtain ⟨xs, m, rfl, rfl, hl, hlen, hf⟩ := DataW.trod_struct Try.underlying62 h
  rw [cellsBind] at hl
  match cs, hl with
  | [c0, c1, c2, c3, c4], _ =>
    match xs, hlen with
    | [x0, x1], _ =>
      have f0 : DataW.trod enc Try.prog w base (fun _ => true) hd m 2 [c0] = some x0 := by have := hf 0 _ rfl; simpa [cellsI64] using this
      have f1 : DataW.trod enc Try.prog w base (fun _ => true) hd m 25 [c1, c2, c3, c4] = some x1 := by have := hf 1 _ rfl; simpa [cellsI64, cellsTerm] using this
      obtain ⟨n, e0, _, w0⟩ := DataW.trod_int Try.underlying2 f0
      simp only [List.cons.injEq, and_true] at e0
      subst e0
      have hin : ∀ q, q ∈ DataW.weightsEach Try.prog [2, 25] [x0.1, x1.1] → q ≤ reachBytes := fun q hq => by
        refine hw q ?_
        simp only [List.map_cons, List.map_nil, DataW.weights, Try.underlying62]
        exact hq
      obtain ⟨k, s, m', v', y', f, hf, e, hk, hs, hm', hkid, hkw⟩ := open_term_cells f1 (fun q hq => hin q (DataW.weights_mem_each (j := 1) rfl rfl q hq))
      obtain ⟨p, ks, kc, rfl, hat, hok, hkl, hkc, hpn⟩ := open_terms f hkid hkw
      exact ⟨n, ⟨k, s, m', p, kc, ks⟩, by rw [e], i64_of_wf w0, hat, hk, hs, hm', ⟨hkl, by simp only; omega⟩, hpn, hok, trivial⟩

set_option maxRecDepth 100000 in
/-- whatever reads as a list of bindings lies as one -/
theorem open_binds {w : World} {fuel : Nat} {v : Value} {x : DataW H × List MemPlace} (h : DataW.trod enc Try.prog w base (fun _ => true) hd fuel 22 [v] = some x)
    (hw : ∀ m ∈ x.1.weights Try.prog 22, m ≤ reachBytes) :
    ∃ (p : Option Addr) (l : List (Int × Nd)) (cap : Nat), v = .slice p l.length cap ∧ BsAt w p l ∧ (bsTs l).ok ∧ l.length ≤ 9223372036854775807 ∧ ∀ e ∈ l, -9223372036854775808 ≤ e.1 ∧ e.1 ≤ 9223372036854775807 := by
  rcases DataW.trod_slice Try.underlying22 h with ⟨hcs, rfl⟩ | ⟨a, len, cap, elems, rest, n, rfl, hcs, rfl, hb, hl, hm, hlen, hel, hsp, _⟩
  · simp only [List.cons.injEq, and_true] at hcs
    subst hcs
    exact ⟨none, [], 0, rfl, ⟨0, 0, .inl rfl, trivial⟩, trivial, by simp, fun e he => by cases he⟩
  · simp only [List.cons.injEq, and_true] at hcs
    subst hcs
    have hrest := (hsp rfl).1
    have hW : ∀ q, q ∈ ((elems.map (·.1)).length + (rest.map (·.1)).length) * 64 :: (DataW.weightsAll Try.prog 62 (elems.map (·.1)) ++ DataW.weightsAll Try.prog 62 (rest.map (·.1))) → q ≤ reachBytes := fun q hq => by
      refine hw q ?_
      simp only [DataW.weights, Try.underlying22, bytesBind]
      exact hq
    have hcap : cap * 64 ≤ 140737488351232 := by
      have h1 := hW _ (List.mem_cons_self ..)
      simp only [List.length_map, hlen, hrest] at h1
      rw [reach_eq] at h1
      rw [show len + (cap - len) = cap from by omega] at h1
      exact h1
    have hspot0 : 0 < len → a.spot = none := fun h0 => by
      have hi := hel 0 h0
      have hlt : 0 < elems.length := by omega
      rw [List.getElem?_eq_getElem hlt] at hi
      obtain ⟨cs, hcs, _⟩ := Option.bind_eq_some_iff.1 hi
      rw [cellsBind] at hcs
      obtain ⟨_, hcl, hcell⟩ := World.cells?_some hcs
      have h1 := hcell 0 (by omega)
      rw [List.getElem?_eq_getElem (by omega)] at h1
      have h2 := World.cell?_spot h1
      simpa [Addr.add] using h2
    have build : ∀ j, j ≤ len → ∃ l : List (Int × Nd), l.length = j ∧ BsLies w a.block (a.off + 5 * (len - j)) l ∧ (bsTs l).ok ∧ (l = [] ∨ a.spot = none) ∧ ∀ e ∈ l, -9223372036854775808 ≤ e.1 ∧ e.1 ≤ 9223372036854775807 := by
      intro j
      induction j with
      | zero => exact fun _ => ⟨[], rfl, trivial, trivial, .inl rfl, fun e he => by cases he⟩
      | succ j ihj =>
        intro hj
        obtain ⟨l, h1, h2, h3, _, h5⟩ := ihj (by omega)
        have hi := hel (len - (j + 1)) (by omega)
        have hget : ∃ y, elems[len - (j + 1)]? = some y ∧ y ∈ elems := by
          have hlt : len - (j + 1) < elems.length := by omega
          exact ⟨elems[len - (j + 1)], List.getElem?_eq_getElem hlt, List.getElem_mem hlt⟩
        obtain ⟨y, hy, hmem⟩ := hget
        rw [hy] at hi
        obtain ⟨cs, hcs, hread⟩ := Option.bind_eq_some_iff.1 hi
        rw [cellsBind] at hcs
        obtain ⟨_, hcl, hcell⟩ := World.cells?_some hcs
        obtain ⟨v, z, rfl, hv, hat, hok⟩ := open_bind_cells hread (fun q hq => hW q (List.mem_cons_of_mem _ (List.mem_append_left _ (weights_all (List.mem_map.2 ⟨y, hmem, rfl⟩) q hq))))
        have hspot := hspot0 (by omega)
        obtain ⟨b, off, spot⟩ := a
        simp only at hspot
        subst hspot
        have c0 := hcell 0 (by omega)
        have c1 := hcell 1 (by omega)
        have c2 := hcell 2 (by omega)
        have c3 := hcell 3 (by omega)
        have c4 := hcell 4 (by omega)
        simp only [add_plain, List.getElem?_cons_zero, List.getElem?_cons_succ] at c0 c1 c2 c3 c4
        have eo : off + (len - (j + 1)) * 5 = off + 5 * (len - (j + 1)) := by omega
        rw [eo] at c0 c1 c2 c3 c4
        refine ⟨(v, z) :: l, by simp [h1], ⟨c0, c1, c2, c3, c4, hat, ?_⟩, ⟨hok.1, hok.2.1, hok.2.2.1, hok.2.2.2.1, hok.2.2.2.2.1, hok.2.2.2.2.2.1, h3⟩, .inr rfl, fun e he => ?_⟩
        · rw [show off + 5 * (len - (j + 1)) + 5 = off + 5 * (len - j) from by omega]
          exact h2
        · rcases List.mem_cons.1 he with rfl | he
          · exact hv
          · exact h5 e he
    obtain ⟨l, h1, h2, h3, h4, h5⟩ := build len (Nat.le_refl _)
    refine ⟨some a, l, cap, by rw [h1], ?_, h3, by omega, h5⟩
    rcases h4 with rfl | h4
    · exact ⟨0, 0, .inl rfl, trivial⟩
    · obtain ⟨b, off, spot⟩ := a
      simp only at h4
      subst h4
      rw [show off + 5 * (len - len) = off from by omega] at h2
      exact ⟨b, off, .inr rfl, h2⟩

theorem open_bs {w : World} {v : Value} {d : DataW H} {p : List MemPlace} (hv : ∃ a len cap, v = .slice a len cap) (h : DataW.Trod enc Try.prog w 0 (fun _ => true) true 22 v d p)
    (hw : ∀ m ∈ d.weights Try.prog 22, m ≤ reachBytes) :
    ∃ (p : Option Addr) (l : List (Int × Nd)) (c : Nat), v = .slice p l.length c ∧ BsAt w p l ∧ (bsTs l).ok ∧ l.length ≤ 9223372036854775807 ∧ ∀ e ∈ l, -9223372036854775808 ≤ e.1 ∧ e.1 ≤ 9223372036854775807 := by
  obtain ⟨a, len, cap, rfl⟩ := hv
  obtain ⟨fuel, hf⟩ := h
  exact open_binds (by simpa [Value.cells] using hf) hw
end

end Go.Proofs.Ytnmhnaanpjlniaa
/-
  The law ArithTells, walked. (Written by gen_et.py.)
-/
namespace Go.Proofs.Ytnmhnaanpjlniaa
open Go.RowKit

set_option maxRecDepth 100000 in
theorem evalNil_any (a : Nd) (w : World) : Calls Try.prog 14 #[.pointer none, .agg #[.int .u8 a.k, .string a.s, .int .i64 a.n, .slice a.p a.kids.len a.c]] w fun e w' => e = .returned (.tuple #[.int .i64 0, .int .i64 2]) ∧ Below w.heap.size w w' := by
  go_enter_defers Try.func14, Try.ntmps14
  go_wp2_with fail
  simp only [bodyPostD, Leaves]
  refine ⟨.tuple #[.int .i64 0, .int .i64 2], by simp [results, Try.results14, go_sem], rfl, ?_⟩
  exact (((Below.refl _ _).alloc (Nat.le_refl _) _).alloc (by simp) _).alloc (by simp; omega) _

set_option maxRecDepth 100000 in
set_option maxHeartbeats 16000000 in
theorem arithTells_true (l : List (Int × Nd)) (a : Nd) (hl63 : l.length ≤ 9223372036854775807) (hbok : (bsTs l).ok) (hvr : ∀ e ∈ l, -9223372036854775808 ≤ e.1 ∧ e.1 ≤ 9223372036854775807) (w : World) (lp : Option Addr) (lc : Nat) (hat : BsAt w lp l) (hoka : a.ok) (hata : Ts.At w a.p a.kids) :
    Calls Try.prog 4 #[.slice lp l.length lc, .agg #[.int .u8 a.k, .string a.s, .int .i64 a.n, .slice a.p a.kids.len a.c]] w fun e w' => e = .returned (.bool true) ∧ Below w.heap.size w w' := by
  have BOK := Lib.hid hbok
  have VR := Lib.hid hvr
  have AT := Lib.hid hat
  have OKa := Lib.hid hoka
  have ATa := Lib.hid hata
  clear hbok hvr hat hoka hata
  obtain ⟨g, hg⟩ : ∃ g, g = bGreat l a := ⟨_, rfl⟩
  have GG := Lib.hid hg
  clear hg
  go_enter Try.func4, Try.ntmps4
  go_upto_region 1 with fail
  obtain ⟨W0, hW0⟩ : ∃ W0, W0 = w.alloc (.cells #[.int .u8 a.k, .string a.s, .int .i64 a.n, .slice a.p a.kids.len a.c] 25) := ⟨_, rfl⟩
  rw [← hW0]
  have hB0 : Below w.heap.size w W0 := by rw [hW0]; exact (Below.refl _ _).alloc (Nat.le_refl _) _
  have hXt : BoxIs w.heap.size a W0 := by rw [hW0]; exact BoxIs.new w a _
  have BW := Lib.hid hB0
  have XT := Lib.hid hXt
  clear hW0 hB0 hXt
  have c0 := XT.out.c0
  have c1 := XT.out.c1
  have c2 := XT.out.c2
  have c3 := XT.out.c3
  go_wp2_with fail
  refine (bgreat_any l a hl63 BOK.out _ lp lc (AT.out.below BW.out) OKa.out (ATa.out.below BW.out)).mono ?_
  rintro e w1 ⟨rfl, hI⟩
  rw [← GG.out]
  clear c0 c1 c2 c3
  replace XT := Lib.hid (XT.out.below hI)
  replace BW := Lib.hid (BW.out.trans (hI.mono BW.out.size))
  clear hI
  cases g with
  | true =>
    go_wp2_with fail
    refine (wakes13_any _).mono ?_
    rintro e we ⟨rfl, hB⟩
    replace BW := Lib.hid (BW.out.trans (hB.mono BW.out.size))
    clear hB
    go_wp2
    go_ret
    exact ⟨rfl, BW.out⟩

  | false =>
  obtain ⟨hl40, hsa, hbs⟩ := bGreat_size GG.out.symm
  go_wp2_with fail
  refine (make_any l hl40 BOK.out hbs VR.out w1 lp lc (AT.out.below BW.out)).mono ?_
  rintro e w2 ⟨had, σ, q, c, rfl, hba, hhl, hS, hST, hsm, hI⟩
  have SC := Lib.hid hS
  have BA := Lib.hid hba
  have EH := Lib.hid (hST.ends hS.ends)
  have HGO : Hid (∀ v x, look had v = some x → x.ok) := Lib.hid fun v x hx => (hsm _ (look_mem hx)).1
  have RT : Hid (rk (look had) 4096 4096 a = rk σ 4096 4096 a) := Lib.hid (rk_tw hST hS.ends 4096 4096 (Nd.twin_refl a)).symm
  clear hS hba hST hsm
  have hhl2 : had.length ≤ 1000000 := by omega
  obtain ⟨S, hSe⟩ : ∃ S, S = w1.heap.size := ⟨_, rfl⟩
  rw [← hSe] at SC ⊢
  clear hSe hhl
  replace XT := Lib.hid (XT.out.below hI)
  replace BW := Lib.hid (BW.out.trans (hI.mono BW.out.size))
  clear hI
  have c0 := XT.out.c0
  have c1 := XT.out.c1
  have c2 := XT.out.c2
  have c3 := XT.out.c3
  obtain ⟨P, hP⟩ : ∃ P, P = rk σ 4096 4096 a := ⟨_, rfl⟩
  have PE := Lib.hid hP
  clear hP
  obtain ⟨E, hE⟩ : ∃ E, E = P.1.2 := ⟨_, rfl⟩
  obtain ⟨V, hV⟩ : ∃ V, V = if P.1.2 = 0 then P.1.1 else 0 := ⟨_, rfl⟩
  have AN : Hid (ansOf P.1 = .tuple #[.int .i64 V, .int .i64 E]) := Lib.hid (by rw [hE, hV]; rfl)
  have EE := Lib.hid hE
  have VE := Lib.hid hV
  clear hE hV
  go_wp2_with fail
  refine (eval_gen S σ had.length w2 SC.out a OKa.out (ATa.out.below BW.out) hsa).mono ?_
  rintro e w3 ⟨rfl, hI⟩
  rw [← PE.out, AN.out]
  clear c0 c1 c2 c3
  replace XT := Lib.hid (XT.out.below hI)
  replace BA := Lib.hid (BA.out.below hI)
  replace BW := Lib.hid (BW.out.trans (hI.mono BW.out.size))
  clear hI
  have c0 := XT.out.c0
  have c1 := XT.out.c1
  have c2 := XT.out.c2
  have c3 := XT.out.c3
  clear SC
  have re := reval_any had hhl2 EH.out HGO.out 4096 4096 (Nat.le_refl _) (Nat.le_refl _) a w3 q c BA.out OKa.out (ATa.out.below BW.out)
  rw [show (4096 - ((4096 : Nat) : Int)) = 0 from rfl, RT.out, ← PE.out] at re
  have RV := Lib.hid re
  clear re
  go_wp2_with fail
  refine RV.out.mono ?_
  rintro e w4 ⟨⟨N, rfl, -⟩, hI⟩
  rw [← EE.out]
  clear c0 c1 c2 c3
  replace XT := Lib.hid (XT.out.below hI)
  replace BW := Lib.hid (BW.out.trans (hI.mono BW.out.size))
  clear hI
  have c0 := XT.out.c0
  have c1 := XT.out.c1
  have c2 := XT.out.c2
  have c3 := XT.out.c3
  clear RV
  go_wp2_with fail
  refine (evalNil_any a w4).mono ?_
  rintro e w5 ⟨rfl, hI⟩
  clear c0 c1 c2 c3
  replace XT := Lib.hid (XT.out.below hI)
  replace BW := Lib.hid (BW.out.trans (hI.mono BW.out.size))
  clear hI
  have nv : (V == V) = true := by simp
  have ne : (E == E) = true := by simp
  by_cases hE0 : P.1.2 = 0
  · have hV0 : P.1.1 = V := by rw [VE.out, if_pos hE0]
    have e0 : (E != 0) = false := by rw [EE.out, hE0]; rfl
    rw [hV0]
    clear hV0 hE0
    go_wp2_with fail
    refine (wakes13_any _).mono ?_
    rintro e we ⟨rfl, hB⟩
    replace BW := Lib.hid (BW.out.trans (hB.mono BW.out.size))
    clear hB
    go_wp2
    go_ret
    exact ⟨rfl, BW.out⟩

  · have hV0 : V = 0 := by rw [VE.out, if_neg hE0]
    have e0 : (E != 0) = true := by rw [EE.out]; simpa using hE0
    clear hE0
    subst hV0
    go_wp2_with fail
    refine (wakes13_any _).mono ?_
    rintro e we ⟨rfl, hB⟩
    replace BW := Lib.hid (BW.out.trans (hB.mono BW.out.size))
    clear hB
    go_wp2
    go_ret
    exact ⟨rfl, BW.out⟩

theorem arithTells_w (w : World) (lp : Option Addr) (l : List (Int × Nd)) (lc : Nat) (k : Int) (s : ByteArray) (n : Int) (p : Option Addr) (c : Nat) (ts : Ts)
    (hat : BsAt w lp l) (hbok : (bsTs l).ok) (hl : l.length ≤ 9223372036854775807) (hvr : ∀ e ∈ l, -9223372036854775808 ≤ e.1 ∧ e.1 ≤ 9223372036854775807) (hok : Ts.ok (.cons k s n p c ts .nil)) (htat : Ts.At w p ts) :
    Calls Try.prog 4 #[.slice lp l.length lc, tv k s n p ts.len c] w fun e w' => e = .returned (.bool true) ∧ Below w.heap.size w w' :=
  arithTells_true l ⟨k, s, n, p, c, ts⟩ hl hbok hvr w lp lc hat hok htat

end Go.Proofs.Ytnmhnaanpjlniaa
