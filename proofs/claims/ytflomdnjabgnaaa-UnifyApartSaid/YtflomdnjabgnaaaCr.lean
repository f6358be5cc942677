import Derived.Test.YtflomdnjabgnaaaCq
import Derived.Test.YtflomdnjabgnaaaVa
import Derived.Test.YtflomdnjabgnaaaXo
/-
  The law UnifyNil, walked.
-/
namespace Go.Proofs.Ytflomdnjabgnaaa
open Go.RowKit

theorem pairBoxes {w W3 : World} {a b : Nd} (h : W3 = ((w.alloc (.cells #[.int .u8 a.k, .string a.s, .int .i64 a.n, .slice a.p a.kids.len a.c] 24)).alloc (.cells #[.int .u8 b.k, .string b.s, .int .i64 b.n, .slice b.p b.kids.len b.c] 24)).alloc (.cells #[.int .u8 a.k, .string a.s, .int .i64 a.n, .slice a.p a.kids.len a.c, .int .u8 b.k, .string b.s, .int .i64 b.n, .slice b.p b.kids.len b.c] 24)) (hata : Ts.At w a.p a.kids) (hatb : Ts.At w b.p b.kids) :
    BoxIs w.heap.size a W3 ∧ BoxIs (w.heap.size + 1) b W3 ∧ Below w.heap.size w W3 ∧ Ts.At W3 (some ⟨w.heap.size + 1 + 1, 0, none⟩) (.cons a.k a.s a.n a.p a.c a.kids (.cons b.k b.s b.n b.p b.c b.kids .nil)) := by
  obtain ⟨W2, hW2⟩ : ∃ W2, W2 = (w.alloc (.cells #[.int .u8 a.k, .string a.s, .int .i64 a.n, .slice a.p a.kids.len a.c] 24)).alloc (.cells #[.int .u8 b.k, .string b.s, .int .i64 b.n, .slice b.p b.kids.len b.c] 24) := ⟨_, rfl⟩
  have hs : W2.heap.size = w.heap.size + 1 + 1 := by rw [hW2]; simp
  have hB : Below w.heap.size w W2 := by rw [hW2]; exact below2 _ _ _
  have h1 : BoxIs w.heap.size a W2 := by rw [hW2]; exact (BoxIs.new w a _).below ((Below.refl _ _).alloc (Nat.le_refl _) _)
  have h2 : BoxIs (w.heap.size + 1) b W2 := by
    have h := BoxIs.new (w.alloc (.cells #[.int .u8 a.k, .string a.s, .int .i64 a.n, .slice a.p a.kids.len a.c] 24)) b 24
    rw [World.size_alloc] at h
    rw [hW2]; exact h
  rw [← hW2] at h
  obtain ⟨W4, hW4, hs4, hB4, hc4⟩ := box1 W2 #[.int .u8 a.k, .string a.s, .int .i64 a.n, .slice a.p a.kids.len a.c, .int .u8 b.k, .string b.s, .int .i64 b.n, .slice b.p b.kids.len b.c] 24
  rw [← hW4] at h
  subst h
  rw [hs] at hc4
  have hBB := hB.trans (hB4.mono hB.size)
  exact ⟨h1.below hB4, h2.below hB4, hBB, lies_two rfl hc4 (hata.below hBB) (hatb.below hBB)⟩

set_option maxRecDepth 100000 in
set_option maxHeartbeats 8000000 in
theorem unifyNil_true (a b : Nd) (w : World) (hoka : Ts.ok (.cons a.k a.s a.n a.p a.c a.kids .nil)) (hata : Ts.At w a.p a.kids) (hokb : Ts.ok (.cons b.k b.s b.n b.p b.c b.kids .nil)) (hatb : Ts.At w b.p b.kids) :
    Calls Try.prog 7 #[.agg #[.int .u8 a.k, .string a.s, .int .i64 a.n, .slice a.p a.kids.len a.c], .agg #[.int .u8 b.k, .string b.s, .int .i64 b.n, .slice b.p b.kids.len b.c]] w fun e w' => e = .returned (.bool true) ∧ Below w.heap.size w w' := by
  have OKA := Lib.hid hoka
  have OKB := Lib.hid hokb
  have ATA := Lib.hid hata
  have ATB := Lib.hid hatb
  clear hoka hokb hata hatb
  go_enter Try.func7, Try.ntmps7
  go_wp2_with fail
  obtain ⟨W3, hW3⟩ : ∃ W3, W3 = ((w.alloc (.cells #[.int .u8 a.k, .string a.s, .int .i64 a.n, .slice a.p a.kids.len a.c] 24)).alloc (.cells #[.int .u8 b.k, .string b.s, .int .i64 b.n, .slice b.p b.kids.len b.c] 24)).alloc (.cells #[.int .u8 a.k, .string a.s, .int .i64 a.n, .slice a.p a.kids.len a.c, .int .u8 b.k, .string b.s, .int .i64 b.n, .slice b.p b.kids.len b.c] 24) := ⟨_, rfl⟩
  rw [← hW3]
  obtain ⟨hba, hbb, hB, hat⟩ := pairBoxes hW3 ATA.out ATB.out
  have BA := Lib.hid hba
  have BB := Lib.hid hbb
  have BW := Lib.hid hB
  clear hba hbb hB hW3
  obtain ⟨g, hg⟩ : ∃ g, g = decide (1000 < manyP (.cons a.k a.s a.n a.p a.c a.kids (.cons b.k b.s b.n b.p b.c b.kids .nil)) 0) := ⟨_, rfl⟩
  refine (great_is (.cons a.k a.s a.n a.p a.c a.kids (.cons b.k b.s b.n b.p b.c b.kids .nil)) ⟨OKA.out.1, OKA.out.2.1, OKA.out.2.2.1, OKA.out.2.2.2.1, OKA.out.2.2.2.2.1, OKA.out.2.2.2.2.2.1, OKB.out⟩ g hg.symm W3 _ 2 hat (by simp [Ts.len])).mono ?_
  rintro e w2 ⟨rfl, hB⟩
  clear hg hat
  replace BA := Lib.hid (BA.out.below hB)
  replace BB := Lib.hid (BB.out.below hB)
  replace BW := Lib.hid (BW.out.trans (hB.mono BW.out.size))
  clear hB
  cases g with
  | true =>
    go_wp2_with fail
    refine (wakes4_any _).mono ?_
    rintro e we ⟨rfl, hB⟩
    replace BW := Lib.hid (BW.out.trans (hB.mono BW.out.size))
    clear hB
    go_wp2
    go_ret
    exact ⟨rfl, BW.out⟩
  | false =>
    have a0 := BA.out.c0
    have a1 := BA.out.c1
    have a2 := BA.out.c2
    have a3 := BA.out.c3
    have b0 := BB.out.c0
    have b1 := BB.out.c1
    have b2 := BB.out.c2
    have b3 := BB.out.c3
    go_wp2_with fail
    refine (UnifyNil_any a b _).mono ?_
    rintro e w3 ⟨rfl, hB⟩
    replace BW := Lib.hid (BW.out.trans (hB.mono BW.out.size))
    clear hB a0 a1 a2 a3 b0 b1 b2 b3
    go_wp2_with fail
    refine (ListsNil_any _ _ _ _ _ _ _).mono ?_
    rintro e w4 ⟨rfl, hB⟩
    replace BW := Lib.hid (BW.out.trans (hB.mono BW.out.size))
    clear hB
    go_wp2_with fail
    refine (wakes4_any _).mono ?_
    rintro e we ⟨rfl, hB⟩
    replace BW := Lib.hid (BW.out.trans (hB.mono BW.out.size))
    clear hB
    go_wp2
    go_ret
    exact ⟨rfl, BW.out⟩

theorem unifyNil_w (w : World) (k : Int) (s : ByteArray) (n : Int) (p : Option Addr) (c : Nat) (ts : Ts) (k' : Int) (s' : ByteArray) (n' : Int) (p' : Option Addr) (c' : Nat) (ts' : Ts)
    (hok : Ts.ok (.cons k s n p c ts .nil)) (hat : Ts.At w p ts) (hok' : Ts.ok (.cons k' s' n' p' c' ts' .nil)) (hat' : Ts.At w p' ts') :
    Calls Try.prog 7 #[tv k s n p ts.len c, tv k' s' n' p' ts'.len c'] w fun e w' => e = .returned (.bool true) ∧ Below w.heap.size w w' :=
  unifyNil_true ⟨k, s, n, p, c, ts⟩ ⟨k', s', n', p', c', ts'⟩ w hok hat hok' hat'

end Go.Proofs.Ytflomdnjabgnaaa
