import Derived.Test.YtnmhnaanpjlniaaGreatFj
import Derived.Test.YtnmhnaanpjlniaaGreatAw
import Derived.Test.YtnmhnaanpjlniaaGreatTf
import Derived.ProofKit
import Derived.SizedLaws
import Derived.ChangeBears2
import Derived.OpenShut
/-
  The laws BuiltinOrder and BuiltinGround, walked. (Written by gen_fk.py.)
-/
namespace Go.Proofs.YtnmhnaanpjlniaaGreat
open Go.RowKit

theorem good_shape {k : Int} {s : ByteArray} {n : Int} {ts : Ts} (h : goodB 64 k s n ts = true) : (shapeL ts && headB k s n ts.len) = true := by
  unfold goodB at h
  simp only [Bool.and_eq_true] at h ⊢
  exact h.2

theorem pair3 {w W : World} {a b : Nd} (h : W = ((w.alloc (.cells #[.int .u8 a.k, .string a.s, .int .i64 a.n, .slice a.p a.kids.len a.c] 25)).alloc (.cells #[.int .u8 b.k, .string b.s, .int .i64 b.n, .slice b.p b.kids.len b.c] 25)).alloc (.cells #[.int .u8 a.k, .string a.s, .int .i64 a.n, .slice a.p a.kids.len a.c, .int .u8 b.k, .string b.s, .int .i64 b.n, .slice b.p b.kids.len b.c] 25)) (hata : Ts.At w a.p a.kids) (hatb : Ts.At w b.p b.kids) :
    BoxIs w.heap.size a W ∧ BoxIs (w.heap.size + 1) b W ∧ Below w.heap.size w W ∧ Ts.At W (some ⟨w.heap.size + 1 + 1, 0, none⟩) (.cons a.k a.s a.n a.p a.c a.kids (.cons b.k b.s b.n b.p b.c b.kids .nil)) := by
  obtain ⟨W2, hW2, hB2, h1, h2⟩ := box2N w a b 25
  rw [← hW2] at h
  have hs : W2.heap.size = w.heap.size + 1 + 1 := by rw [hW2]; simp
  obtain ⟨hB, hat⟩ := two_at h (hata.below hB2) (hatb.below hB2)
  rw [hs] at hat hB
  exact ⟨h1.below (by rw [hs]; exact hB), h2.below (by rw [hs]; exact hB), hB2.trans (hB.mono (by omega)), hat⟩

set_option maxRecDepth 100000 in
set_option maxHeartbeats 16000000 in
theorem builtinOrder_true (a b : Nd) (w : World) (hoka : Ts.ok (.cons a.k a.s a.n a.p a.c a.kids .nil)) (hata : Ts.At w a.p a.kids) (hokb : Ts.ok (.cons b.k b.s b.n b.p b.c b.kids .nil)) (hatb : Ts.At w b.p b.kids) :
    Calls Tryz.prog 6 #[.agg #[.int .u8 a.k, .string a.s, .int .i64 a.n, .slice a.p a.kids.len a.c], .agg #[.int .u8 b.k, .string b.s, .int .i64 b.n, .slice b.p b.kids.len b.c]] w fun e w' => e = .returned (.bool true) ∧ Below w.heap.size w w' := by
  have OKa := Lib.hid (show a.ok from hoka)
  have OKb := Lib.hid (show b.ok from hokb)
  have ATa := Lib.hid hata
  have ATb := Lib.hid hatb
  clear hoka hokb hata hatb
  go_enter Tryz.func6, Tryz.ntmps6
  go_wp2_with fail
  obtain ⟨W3, hW3⟩ : ∃ W3, W3 = ((w.alloc (.cells #[.int .u8 a.k, .string a.s, .int .i64 a.n, .slice a.p a.kids.len a.c] 25)).alloc (.cells #[.int .u8 b.k, .string b.s, .int .i64 b.n, .slice b.p b.kids.len b.c] 25)).alloc (.cells #[.int .u8 a.k, .string a.s, .int .i64 a.n, .slice a.p a.kids.len a.c, .int .u8 b.k, .string b.s, .int .i64 b.n, .slice b.p b.kids.len b.c] 25) := ⟨_, rfl⟩
  rw [← hW3]
  obtain ⟨hba, hbb, hB, hat⟩ := pair3 hW3 ATa.out ATb.out
  have XT := Lib.hid hba
  have XO := Lib.hid hbb
  have BW := Lib.hid hB
  clear hba hbb hB hW3
  obtain ⟨g, hg⟩ : ∃ g, g = decide (1000 < manyP (.cons a.k a.s a.n a.p a.c a.kids (.cons b.k b.s b.n b.p b.c b.kids .nil)) 0) := ⟨_, rfl⟩
  refine (great_is (.cons a.k a.s a.n a.p a.c a.kids (.cons b.k b.s b.n b.p b.c b.kids .nil)) (two_ok OKa.out OKb.out) g hg.symm W3 _ 2 hat (by simp [Ts.len])).mono ?_
  rintro e w2 ⟨rfl, hI⟩
  have GG := Lib.hid hg
  clear hg hat
  replace XT := Lib.hid (XT.out.below hI)
  replace XO := Lib.hid (XO.out.below hI)
  replace BW := Lib.hid (BW.out.trans (hI.mono BW.out.size))
  clear hI
  cases g with
  | true =>
    go_wp2_with fail
    refine (wakes14_any _).mono ?_
    rintro e we ⟨rfl, hB⟩
    replace BW := Lib.hid (BW.out.trans (hB.mono BW.out.size))
    clear hB
    go_wp2
    go_ret
    exact ⟨rfl, BW.out⟩
  | false =>
  have hsz0 := small_of_many GG.out.symm
  simp only [Ts.size] at hsz0
  have c0 := XT.out.c0
  have c1 := XT.out.c1
  have c2 := XT.out.c2
  have c3 := XT.out.c3
  go_wp2_with fail
  refine (rGood_any a.kids (by omega) OKa.out.2.2.2.2.2.1 a.k a.s a.n w2 a.p a.c OKa.out.2.1 (ATa.out.below BW.out)).mono ?_
  rintro e w3 ⟨rfl, hI⟩
  replace XT := Lib.hid (XT.out.below hI)
  replace XO := Lib.hid (XO.out.below hI)
  replace BW := Lib.hid (BW.out.trans (hI.mono BW.out.size))
  clear hI
  clear c0 c1 c2 c3
  obtain ⟨ga, hga⟩ : ∃ g, g = goodB 64 a.k a.s a.n a.kids := ⟨_, rfl⟩
  rw [← hga]
  have Ga := Lib.hid hga
  clear hga
  cases ga with
  | false =>
    go_wp2_with fail
    refine (wakes14_any _).mono ?_
    rintro e we ⟨rfl, hB⟩
    replace BW := Lib.hid (BW.out.trans (hB.mono BW.out.size))
    clear hB
    go_wp2
    go_ret
    exact ⟨rfl, BW.out⟩
  | true =>
  have c0 := XO.out.c0
  have c1 := XO.out.c1
  have c2 := XO.out.c2
  have c3 := XO.out.c3
  go_wp2_with fail
  refine (rGood_any b.kids (by omega) OKb.out.2.2.2.2.2.1 b.k b.s b.n w3 b.p b.c OKb.out.2.1 (ATb.out.below BW.out)).mono ?_
  rintro e w4 ⟨rfl, hI⟩
  replace XT := Lib.hid (XT.out.below hI)
  replace XO := Lib.hid (XO.out.below hI)
  replace BW := Lib.hid (BW.out.trans (hI.mono BW.out.size))
  clear hI
  clear c0 c1 c2 c3
  obtain ⟨gb, hgb⟩ : ∃ g, g = goodB 64 b.k b.s b.n b.kids := ⟨_, rfl⟩
  rw [← hgb]
  have Gb := Lib.hid hgb
  clear hgb
  cases gb with
  | false =>
    go_wp2_with fail
    refine (wakes14_any _).mono ?_
    rintro e we ⟨rfl, hB⟩
    replace BW := Lib.hid (BW.out.trans (hB.mono BW.out.size))
    clear hB
    go_wp2
    go_ret
    exact ⟨rfl, BW.out⟩
  | true =>
  obtain ⟨x, hx⟩ : ∃ x, x = ordN a b := ⟨_, rfl⟩
  have XE := Lib.hid hx
  clear hx
  have c0 := XT.out.c0
  have c1 := XT.out.c1
  have c2 := XT.out.c2
  have c3 := XT.out.c3
  have d0 := XO.out.c0
  have d1 := XO.out.c1
  have d2 := XO.out.c2
  have d3 := XO.out.c3
  go_wp2_with fail
  refine (tord_any _ a.kids b.kids (Nat.lt_succ_self _) (by omega) a.k b.k a.s b.s a.n b.n w4 a.p b.p a.c b.c OKa.out OKb.out (ATa.out.below BW.out) (ATb.out.below BW.out)).mono ?_
  rintro e w5 ⟨rfl, hI⟩
  rw [show ordH a.k b.k a.s b.s a.n b.n a.kids b.kids (ordL a.kids b.kids) = x from XE.out.symm]
  replace XT := Lib.hid (XT.out.below hI)
  replace XO := Lib.hid (XO.out.below hI)
  replace BW := Lib.hid (BW.out.trans (hI.mono BW.out.size))
  clear hI
  clear c0 c1 c2 c3 d0 d1 d2 d3
  have c0 := XT.out.c0
  have c1 := XT.out.c1
  have c2 := XT.out.c2
  have c3 := XT.out.c3
  have d0 := XO.out.c0
  have d1 := XO.out.c1
  have d2 := XO.out.c2
  have d3 := XO.out.c3
  go_wp2_with fail
  refine (rord_any _ a.kids b.kids (Nat.lt_succ_self _) (by omega) a.k b.k a.s b.s a.n b.n w5 a.p b.p a.c b.c OKa.out OKb.out (good_shape Ga.out.symm) (good_shape Gb.out.symm) (ATa.out.below BW.out) (ATb.out.below BW.out)).mono ?_
  rintro e w6 ⟨rfl, hI⟩
  rw [show ordH a.k b.k a.s b.s a.n b.n a.kids b.kids (ordL a.kids b.kids) = x from XE.out.symm]
  replace XT := Lib.hid (XT.out.below hI)
  replace XO := Lib.hid (XO.out.below hI)
  replace BW := Lib.hid (BW.out.trans (hI.mono BW.out.size))
  clear hI
  clear c0 c1 c2 c3 d0 d1 d2 d3
  obtain ⟨d, v⟩ := x
  have e1 : (d == d) = true := by simp
  have e2 : (v == v) = true := by simp
  go_wp2_with fail
  refine (wakes14_any _).mono ?_
  rintro e we ⟨rfl, hB⟩
  replace BW := Lib.hid (BW.out.trans (hB.mono BW.out.size))
  clear hB
  go_wp2
  go_ret
  exact ⟨rfl, BW.out⟩

theorem builtinOrder_w (w : World) (k : Int) (s : ByteArray) (n : Int) (p : Option Addr) (c : Nat) (ts : Ts) (k' : Int) (s' : ByteArray) (n' : Int) (p' : Option Addr) (c' : Nat) (ts' : Ts)
    (hok : Ts.ok (.cons k s n p c ts .nil)) (hat : Ts.At w p ts) (hok' : Ts.ok (.cons k' s' n' p' c' ts' .nil)) (hat' : Ts.At w p' ts') :
    Calls Tryz.prog 6 #[tv k s n p ts.len c, tv k' s' n' p' ts'.len c'] w fun e w' => e = .returned (.bool true) ∧ Below w.heap.size w w' :=
  builtinOrder_true ⟨k, s, n, p, c, ts⟩ ⟨k', s', n', p', c', ts'⟩ w hok hat hok' hat'

end Go.Proofs.YtnmhnaanpjlniaaGreat
/-
  What a caller may hand in, opened: a term, a list of terms, a text, a number.
-/
namespace Go.Proofs.YtnmhnaanpjlniaaGreat
open Go.ChangeShapes Go.WideShapes Go.ChangeAt Go.RowKit

theorem own : ownKnob Tryz.prog.godebug = none := by kernel_rfl
theorem laidOut : laidOutB Tryz.prog = true := by kernel_rfl

section
variable {H : Type} {enc : TypeId × Value → H}

theorem weights_le {l : List Nat} (h : l.all (· ≤ reachBytes) = true) : ∀ m ∈ l, m ≤ reachBytes := by simpa using h

theorem open_term {w : World} {v : Value} {d : DataW H} {p : List MemPlace} (hv : ∃ cs, v = .agg cs ∧ cs.size = Tryz.prog.cellsOf 25) (h : DataW.Trod enc Tryz.prog w 0 (fun _ => true) true 25 v d p)
    (hw : ∀ m ∈ d.weights Tryz.prog 25, m ≤ reachBytes) :
    ∃ (k : Int) (s : ByteArray) (n : Int) (p : Option Addr) (c : Nat) (ts : Ts), v = tv k s n p ts.len c ∧ Ts.At w p ts ∧ Ts.ok (.cons k s n p c ts .nil) := by
  obtain ⟨cs, rfl, hcs⟩ := hv
  obtain ⟨fuel, hf⟩ := h
  obtain ⟨k, s, n, v, y, m, _, hl, hk, hs, hn, hr, hwr⟩ := open_term_cells hf hw
  obtain ⟨p, ts, c, rfl, hat, hok, hc, hcap, hp⟩ := open_terms m hr hwr
  refine ⟨k, s, n, p, c, ts, ?_, hat, hk, hs, hn, ⟨hc, by omega⟩, hp, hok, trivial⟩
  have : cs.toList = [.int .u8 k, .string s, .int .i64 n, .slice p ts.len c] := by simpa [Value.cells] using hl
  unfold tv
  obtain ⟨l⟩ := cs
  simp only at this
  rw [this]



end
end Go.Proofs.YtnmhnaanpjlniaaGreat
