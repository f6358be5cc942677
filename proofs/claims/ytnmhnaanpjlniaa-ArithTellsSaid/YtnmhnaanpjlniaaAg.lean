import Derived.Test.YtnmhnaanpjlniaaAc
import Derived.Deep.QuietTactic
import Derived.BigQuiet
import Derived.Deep.DeepCutAuto
/-
  Layer 3: what a number is bound to.
-/
namespace Go.Proofs.Ytnmhnaanpjlniaa
open Go.RowKit Go.Maps

theorem valOf_none : valOf Option.none = .agg #[.int .u8 0, .string ⟨#[]⟩, .int .i64 0, .slice Option.none 0 0] := rfl
theorem valOf_some (x : Nd) : valOf (some x) = .agg #[.int .u8 x.k, .string x.s, .int .i64 x.n, .slice x.p x.kids.len x.c] := rfl

theorem SubAt.cell0 {w : World} {S : Nat} {a b c : Value} {t : TypeId} (h : w.heap[S]? = some (.cells #[a, b, c] t (0, 0))) : w.cell? ⟨S, 0, none⟩ = some a ∧ w.cell? ⟨S, 1, none⟩ = some b ∧ w.cell? ⟨S, 2, none⟩ = some c ∧ ∀ i, w.frozen? ⟨S, i, none⟩ = false :=
  ⟨by rw [cell_of_row w S 0 _ _ _ h]; rfl, by rw [cell_of_row w S 1 _ _ _ h]; rfl, by rw [cell_of_row w S 2 _ _ _ h]; rfl, fun i => frozen_of_row w S i _ _ h⟩

theorem below_put4 {B b : Nat} {w W : World} (h : Below B w W) (hb : B ≤ b) (v0 v1 v2 v3 : Value) : Below B w ((((W.setCell ⟨b, 0, none⟩ v0).setCell ⟨b, 1, none⟩ v1).setCell ⟨b, 2, none⟩ v2).setCell ⟨b, 3, none⟩ v3) :=
  (((h.setCell (p := ⟨b, 0, none⟩) hb _).setCell (p := ⟨b, 1, none⟩) hb _).setCell (p := ⟨b, 2, none⟩) hb _).setCell (p := ⟨b, 3, none⟩) hb _

theorem NodeAt.drewN {w : World} {c l : Nat} {p : Option Addr} {f : Sb} (h : NodeAt w c l p f) (k : Nat) : NodeAt (w.drewN k) c l p f :=
  h.stay (Nat.le_refl _) (fun b _ => by rfl)

set_option maxRecDepth 100000 in
set_option maxHeartbeats 4000000 in
theorem binding_any (S : Nat) (σ : Sb) (m : Nat) (w : World) (h : SubAt S σ m w) (v : Int) (hv : -9223372036854775808 ≤ v ∧ v ≤ 9223372036854775807) :
    Calls Try.prog 81 #[.pointer (some ⟨S, 0, none⟩), .int .i64 v] w fun e w' => e = .returned (.tuple #[valOf (σ v), .bool (σ v).isSome]) ∧ Below w.heap.size w w' := by
  obtain ⟨p, hh, hS, hh15, hN, hdom⟩ := h.cells
  obtain ⟨h0, h1, -, -⟩ := SubAt.cell0 hS
  have hSl := World.block_lt_of_cell? _ _ h0
  by_cases hv0 : v < 0
  · have hn : σ v = none := by
      cases hs : σ v with
      | none => rfl
      | some x => have := (hdom v (by rw [hs]; simp)).1; omega
    rw [hn, valOf_none]
    clear hdom hn hN h hS
    go_enter Try.func81, Try.ntmps81
    go_wp2
    exact bodyPost_ret (v := .tuple #[.agg #[.int .u8 0, .string ⟨#[]⟩, .int .i64 0, .slice none 0 0], .bool false]) (by simp [results, Try.results81, go_sem]) rfl ⟨rfl, (Below.refl _ _).alloc (Nat.le_refl _) _⟩
  have g0 := fun (o : Obj) => cell_alloc_old o h0
  have g1 := fun (o : Obj) => cell_alloc_old o h1
  by_cases hb : isBeyond v hh
  · have hn : σ v = none := by
      cases hs : σ v with
      | none => rfl
      | some x => exact absurd hb (hdom v (by rw [hs]; simp)).2.2
    rw [hn, valOf_none]
    clear hdom hn hN h hS
    go_enter Try.func81, Try.ntmps81
    go_wp2_with fail
    refine (beyond_yes v (by omega) hh hh15 hb _).mono ?_
    rintro e w' ⟨rfl, rfl⟩
    go_wp2
    exact bodyPost_ret (v := .tuple #[.agg #[.int .u8 0, .string ⟨#[]⟩, .int .i64 0, .slice none 0 0], .bool false]) (by simp [results, Try.results81, go_sem]) rfl ⟨rfl, (Below.refl _ _).alloc (Nat.le_refl _) _⟩
  · have NN : Hid (NodeAt w m hh p σ) := Lib.hid hN
    have K := Maps.int_keyed Try.underlying2
    have hkey : keyOf Try.prog 2 (.int .i64 v) = some (.int .i64 v) := Maps.keyOf_int_mk Try.underlying2 (wf64 (by omega))
    clear hdom hN h hS
    go_enter Try.func81, Try.ntmps81
    go_wp2_with fail
    refine (beyond_no v (by omega) hh hh15 hb _).mono ?_
    rintro e w' ⟨rfl, rfl⟩
    go_wp2_with fail
    obtain ⟨W0, hW0⟩ : ∃ W0, W0 = w.alloc (.cells #[.int .u8 0, .string ⟨#[]⟩, .int .i64 0, .slice none 0 0] 25) := ⟨_, rfl⟩
    rw [← hW0]
    have hs0 : W0.heap.size = w.heap.size + 1 := by rw [hW0]; simp
    have Z0 := Lib.hid hW0
    have N0 : Hid (NodeAt W0 m hh p σ) := Lib.hid (NN.out.below (by rw [hW0]; exact (Below.refl _ _).alloc (Nat.le_refl _) _))
    clear hW0
    go_loopw [6, 7] (fun s6 s7 wr => ∃ (q : Option Addr) (l : Nat) (f : Sb), s6 = .pointer q ∧ s7 = .int .u64 l ∧ l ≤ 15 ∧ Hid (NodeAt wr m l q f ∧ f v = σ v) ∧ Hid (∃ k, wr = W0.drewN k)) (fun _ i _ => (intOf i).toNat)
    case atStart => exact ⟨p, hh, σ, rfl, rfl, hh15, Lib.hid ⟨N0.out, rfl⟩, Lib.hid ⟨0, rfl⟩⟩
    case round =>
      obtain ⟨q, l, f, rfl, rfl, hl15, NF, WR⟩ := hrel
      have hst : (∃ x : Addr, q = some x) ∨ q = none := by cases q <;> simp
      by_cases hgo : 0 < l ∧ ∃ x : Addr, q = some x
      · obtain ⟨hl0, x, rfl⟩ := hgo
        obtain ⟨l', rfl⟩ : ∃ l', l = l' + 1 := ⟨l - 1, by omega⟩
        obtain ⟨N, ks, hx, hNh, hkids⟩ : ∃ N ks, x = ⟨N, 0, none⟩ ∧ wr.heap[N]? = some (.cells (kidCells ks (.map none)) 107 (0, 0)) ∧ ∀ i, i < 16 → NodeAt wr m l' (ks i) (only f (l' + 1) i) := by
          rcases NF.out.1 with ⟨h, _⟩ | ⟨N, ks, h1, h2, h3⟩
          · cases h
          · cases h1; exact ⟨N, ks, rfl, h2, h3⟩
        subst hx
        have hki := kidOf_lt v (l' + 1)
        have hck : wr.cell? ⟨N, kidOf v (l' + 1), none⟩ = some (.pointer (ks (kidOf v (l' + 1)))) := by rw [cell_of_row wr N _ _ _ _ hNh]; exact kidCells_kid ks _ _ hki
        have NK := Lib.hid hkids
        clear hNh hkids
        have hk0 : 0 ≤ (kidOf v (l' + 1) : Int) := by omega
        have hk16 : (kidOf v (l' + 1) : Int) < 16 := by omega
        go_upto_region 7 with fail
        go_quiet ((go_at_call 107; exact Calls.quiet_of_same (kid_at _ (by omega) (l' + 1) (by omega) _ (by omega) _)))
        go_wp2
        go_roundw
        case rel =>
          refine ⟨ks (kidOf v (l' + 1)), l', only f (l' + 1) (kidOf v (l' + 1)), rfl, by go_num, by omega, Lib.hid ⟨(NK.out _ hki).drewN _, ?_⟩, Lib.hid ?_⟩
          · show (if kidOf v (l' + 1) = kidOf v (l' + 1) then f v else none) = σ v
            rw [if_pos rfl]; exact NF.out.2
          · obtain ⟨k, rfl⟩ := WR.out
            exact ⟨_, World.drewN_drewN _ _ _⟩
        case measure => simp [intOf]
      · obtain ⟨k, hwr⟩ := WR.out
        rw [Z0.out] at hwr
        subst hwr
        have hBw : Below w.heap.size w ((w.alloc (.cells #[.int .u8 0, .string ⟨#[]⟩, .int .i64 0, .slice none 0 0] 25)).drewN k) := below_drewN ((Below.refl _ _).alloc (Nat.le_refl _) _) _
        have BW := Lib.hid hBw
        clear hBw WR Z0
        cases q with
        | none =>
          have hn : σ v = none := by rw [← NF.out.2]; exact NF.out.1.of_none v
          have HN := Lib.hid hn
          clear hn hst hgo
          go_wp2
          exact bodyPost_ret (v := .tuple #[.agg #[.int .u8 0, .string ⟨#[]⟩, .int .i64 0, .slice none 0 0], .bool false]) (by simp [results, Try.results81, go_sem]) rfl ⟨by rw [HN.out]; rfl, below_put4 BW.out (Nat.le_refl _) _ _ _ _⟩
        | some x =>
          obtain rfl : l = 0 := by
            cases l with
            | zero => rfl
            | succ l => exact absurd ⟨Nat.succ_pos _, x, rfl⟩ hgo
          clear hst hgo
          obtain ⟨N, MB, hx, hNh, m2, D, hm2, hown, hD⟩ : ∃ N MB, x = ⟨N, 0, none⟩ ∧ ((w.alloc (.cells #[.int .u8 0, .string ⟨#[]⟩, .int .i64 0, .slice none 0 0] 25)).drewN k).heap[N]? = some (.cells (kidCells (fun _ => none) (.map (some MB))) 107 (0, 0)) ∧ LeafIs ((w.alloc (.cells #[.int .u8 0, .string ⟨#[]⟩, .int .i64 0, .slice none 0 0] 25)).drewN k) m MB f := by
            rcases NF.out.1 with ⟨h, _⟩ | ⟨N, ks, h1, h2, h3⟩
            · cases h
            · cases h1; exact ⟨N, ks, rfl, h2, h3⟩
          subst hx
          obtain ⟨hb1, hb2⟩ := hD v hv
          rw [NF.out.2] at hb1 hb2
          have h16 : (w.alloc (.cells #[.int .u8 0, .string ⟨#[]⟩, .int .i64 0, .slice none 0 0] 25)).cell? ⟨N, 16, none⟩ = some (.map (some MB)) := (cell_of_row _ N 16 _ _ _ hNh).trans (kidCells_last _ _)
          have HB := Lib.hid hb1
          have HV := Lib.hid hb2
          have OWN := Lib.hid hown
          clear hb1 hb2 hown hD hNh
          cases hs : σ v with
          | none =>
            rw [hs] at HB HV
            have HS := Lib.hid hs
            clear hs
            go_wp2_with (at_lookup; refine wpList_lookup_own_ok _ rfl _ _ 105 rfl 2 25 K Try.underlying105 heldElem (zeroTermRun _) (.held zeroTerm) [] rfl MB m2 D rfl OWN.out _ _ rfl hkey ?_; intro v5 ps hv5; obtain rfl := held_inv hv5 HV.out; clear hv5; rw [HB.out, valOf_none])
            exact bodyPost_ret (v := .tuple #[.agg #[.int .u8 0, .string ⟨#[]⟩, .int .i64 0, .slice none 0 0], .bool false]) (by simp [results, Try.results81, go_sem]) rfl ⟨by rw [HS.out]; rfl, (below_put4 BW.out (Nat.le_refl _) _ _ _ _).alloc (by simp) _⟩
          | some y =>
            rw [hs] at HB HV
            have HS := Lib.hid hs
            clear hs
            go_wp2_with (at_lookup; refine wpList_lookup_own_ok _ rfl _ _ 105 rfl 2 25 K Try.underlying105 heldElem (zeroTermRun _) (.held zeroTerm) [] rfl MB m2 D rfl OWN.out _ _ rfl hkey ?_; intro v5 ps hv5; obtain rfl := held_inv hv5 HV.out; clear hv5; rw [HB.out, valOf_some])
            exact bodyPost_ret (v := .tuple #[.agg #[.int .u8 y.k, .string y.s, .int .i64 y.n, .slice y.p y.kids.len y.c], .bool true]) (by simp [results, Try.results81, go_sem]) rfl ⟨by rw [HS.out]; rfl, (below_put4 BW.out (Nat.le_refl _) _ _ _ _).alloc (by simp) _⟩

end Go.Proofs.Ytnmhnaanpjlniaa
/-
  Layer 3: a term walked.
-/
namespace Go.Proofs.Ytnmhnaanpjlniaa
open Go.RowKit Go.Maps

def Nd.ok (x : Nd) : Prop := Ts.ok (.cons x.k x.s x.n x.p x.c x.kids .nil)

theorem wkn_same {σ : Sb} (hE : Ends σ) {x y : Nd} (hk : x.k = y.k) (hn : x.n = y.n) : wkn σ x = wkn σ y := by
  by_cases h : (x.k == 1) = true
  · cases hb : σ x.n with
    | none => rw [wkn_eq (.stop (.inr hb)), wkn_eq (.stop (.inr (by rw [← hn]; exact hb)))]
    | some b =>
      have h' : (y.k == 1) = true := by rw [← hk]; exact h
      have hb' : σ y.n = some b := by rw [← hn]; exact hb
      rw [wkn_go hE h hb, wkn_go hE h' hb']
  · rw [Bool.not_eq_true] at h
    rw [wkn_eq (.stop (.inl h)), wkn_eq (.stop (.inl (by rw [← hk]; exact h)))]

/-- how far a term in a box is from being walked -/
noncomputable def boxFar (σ : Sb) (B : Nat) (w : World) : Nat :=
  match w.cell? ⟨B, 0, none⟩, w.cell? ⟨B, 2, none⟩ with
  | some (.int _ k), some (.int _ n) => wkn σ ⟨k, ⟨#[]⟩, n, none, 0, .nil⟩
  | _, _ => 0

structure BoxIs (B : Nat) (x : Nd) (w : World) : Prop where
  c0 : w.cell? ⟨B, 0, none⟩ = some (.int .u8 x.k)
  c1 : w.cell? ⟨B, 1, none⟩ = some (.string x.s)
  c2 : w.cell? ⟨B, 2, none⟩ = some (.int .i64 x.n)
  c3 : w.cell? ⟨B, 3, none⟩ = some (.slice x.p x.kids.len x.c)
  fr : ∀ i, w.frozen? ⟨B, i, none⟩ = false

theorem BoxIs.far {σ : Sb} (hE : Ends σ) {B : Nat} {x : Nd} {w : World} (h : BoxIs B x w) : boxFar σ B w = wkn σ x := by
  unfold boxFar
  rw [h.c0, h.c2]
  exact wkn_same hE rfl rfl

theorem BoxIs.lt {B : Nat} {x : Nd} {w : World} (h : BoxIs B x w) : B < w.heap.size := World.block_lt_of_cell? _ _ h.c0

theorem BoxIs.below {B : Nat} {x : Nd} {w w' : World} (h : BoxIs B x w) (hB : Below w.heap.size w w') : BoxIs B x w' := by
  have hl := h.lt
  exact ⟨((stays hB).1 _ _ hl).trans h.c0, ((stays hB).1 _ _ hl).trans h.c1, ((stays hB).1 _ _ hl).trans h.c2, ((stays hB).1 _ _ hl).trans h.c3, fun i => ((stays hB).2 _ _ hl).trans (h.fr i)⟩

theorem BoxIs.of_block {B : Nat} {x : Nd} {w w' : World} (h : BoxIs B x w) (hb : w'.heap[B]? = w.heap[B]?) : BoxIs B x w' := by
  have e := fun i => World.cell?_of_block (w := w) (w' := w') (a := ⟨B, i, none⟩) hb
  exact ⟨(e 0).trans h.c0, (e 1).trans h.c1, (e 2).trans h.c2, (e 3).trans h.c3, fun i => (World.frozen?_of_block (w := w) (w' := w') (a := ⟨B, i, none⟩) hb).trans (h.fr i)⟩

theorem BoxIs.new (w : World) (x : Nd) (t : TypeId) : BoxIs w.heap.size x (w.alloc (.cells #[.int .u8 x.k, .string x.s, .int .i64 x.n, .slice x.p x.kids.len x.c] t)) := by
  obtain ⟨W, hW, hs, hB, hc, hf⟩ := alloc_new w #[.int .u8 x.k, .string x.s, .int .i64 x.n, .slice x.p x.kids.len x.c] t
  rw [← hW]
  exact ⟨hc 0 _ rfl, hc 1 _ rfl, hc 2 _ rfl, hc 3 _ rfl, hf⟩

/-- a box's term is put away for another one -/
theorem BoxIs.put {B : Nat} {x y : Nd} {w : World} (h : BoxIs B x w) : BoxIs B y ((((w.setCell ⟨B, 0, none⟩ (.int .u8 y.k)).setCell ⟨B, 1, none⟩ (.string y.s)).setCell ⟨B, 2, none⟩ (.int .i64 y.n)).setCell ⟨B, 3, none⟩ (.slice y.p y.kids.len y.c)) := by
  obtain ⟨W, hW, hs, ho, hr, q0, q1, q2, q3, hf, _⟩ := put4 w B 0 (.int .u8 y.k) (.string y.s) (.int .i64 y.n) (.slice y.p y.kids.len y.c) (by rw [h.c0]; rfl) (by rw [h.c1]; rfl) (by rw [h.c2]; rfl) (by rw [h.c3]; rfl)
  simp only [Nat.zero_add] at hW q0 q1 q2 q3
  rw [← hW]
  exact ⟨q0, q1, q2, q3, fun i => (hf _ _).trans (h.fr i)⟩

set_option maxRecDepth 100000 in
set_option maxHeartbeats 4000000 in
theorem walked_any (S : Nat) (σ : Sb) (m : Nat) (w : World) (h : SubAt S σ m w) (k : Int) (s : ByteArray) (n : Int) (p : Option Addr) (kids : Ts) (c : Nat) (hn : -9223372036854775808 ≤ n ∧ n ≤ 9223372036854775807) :
    Calls Try.prog 61 #[.pointer (some ⟨S, 0, none⟩), .agg #[.int .u8 k, .string s, .int .i64 n, .slice p kids.len c]] w fun e w' => e = .returned (wk σ ⟨k, s, n, p, c, kids⟩).val ∧ Below w.heap.size w w' := by
  have SB := Lib.hid h
  have hSl := h.lt
  clear h
  go_enter Try.func61, Try.ntmps61
  go_wp2_with fail
  obtain ⟨W0, hW0⟩ : ∃ W0, W0 = (w.alloc (.cells #[.int .u8 k, .string s, .int .i64 n, .slice p kids.len c] 25)).alloc (.cells #[.int .u8 0, .string ⟨#[]⟩, .int .i64 0, .slice none 0 0] 25) := ⟨_, rfl⟩
  rw [← hW0]
  have hs0 : W0.heap.size = w.heap.size + 2 := by rw [hW0]; simp
  have hB0 : Below w.heap.size w W0 := by rw [hW0]; exact below2 _ _ _
  have hX0 : BoxIs w.heap.size ⟨k, s, n, p, c, kids⟩ W0 := by rw [hW0]; exact (BoxIs.new w ⟨k, s, n, p, c, kids⟩ _).below ((Below.refl _ _).alloc (Nat.le_refl _) _)
  have hY0 : BoxIs (w.heap.size + 1) ⟨0, ⟨#[]⟩, 0, none, 0, .nil⟩ W0 := by
    have := BoxIs.new (w.alloc (.cells #[.int .u8 k, .string s, .int .i64 n, .slice p kids.len c] 25)) ⟨0, ⟨#[]⟩, 0, none, 0, .nil⟩ 25
    rw [World.size_alloc] at this
    rw [hW0]; exact this
  have X0 := Lib.hid hX0
  have Y0 := Lib.hid hY0
  have B0 := Lib.hid hB0
  have Z0 := Lib.hid hs0
  clear hW0 hX0 hY0 hB0 hs0
  go_loopw [] (fun wr => ∃ x : Nd, Hid (BoxIs w.heap.size x wr) ∧ Hid (BoxIs (w.heap.size + 1) ⟨0, ⟨#[]⟩, 0, none, 0, .nil⟩ wr) ∧ Hid (Below w.heap.size w wr) ∧ Hid (wk σ x = wk σ ⟨k, s, n, p, c, kids⟩) ∧ (-9223372036854775808 ≤ x.n ∧ x.n ≤ 9223372036854775807)) (fun wr => boxFar σ w.heap.size wr)
  case atStart => exact ⟨⟨k, s, n, p, c, kids⟩, X0, Y0, B0, Lib.hid rfl, hn⟩
  case round =>
    obtain ⟨x, XX, YY, BB, WK, hxn⟩ := hrel
    have FAR := Lib.hid (XX.out.far SB.out.ends : boxFar σ w.heap.size wr = wkn σ x)
    have c0 := XX.out.c0
    have c1 := XX.out.c1
    have c2 := XX.out.c2
    have c3 := XX.out.c3
    have f0 := XX.out.fr
    have y0 := YY.out.c0
    have y1 := YY.out.c1
    have y2 := YY.out.c2
    have y3 := YY.out.c3
    have g0 := YY.out.fr
    by_cases hk : (x.k == 1) = true
    · have hsl : S < wr.heap.size := Nat.lt_of_lt_of_le hSl BB.out.size
      go_wp2_with fail
      refine (binding_any S σ m wr (SB.out.below BB.out) x.n hxn).mono ?_
      rintro e w1 ⟨rfl, hB1⟩
      replace XX := Lib.hid (XX.out.below hB1)
      replace YY := Lib.hid (YY.out.below hB1)
      replace BB := Lib.hid (BB.out.trans (hB1.mono BB.out.size))
      clear hB1 c0 c1 c2 c3 f0 y0 y1 y2 y3 g0 hsl
      cases hb : σ x.n with
      | none =>
        have HW := Lib.hid (wk_stop (.inr hb) : wk σ x = x)
        rw [valOf_none]
        clear hb
        obtain ⟨W2, hW2⟩ : ∃ W2, W2 = w1.alloc (.cells #[.int .u8 0, .string ⟨#[]⟩, .int .i64 0, .slice none 0 0] 25) := ⟨_, rfl⟩
        have hB2 : Below w1.heap.size w1 W2 := by rw [hW2]; exact (Below.refl _ _).alloc (Nat.le_refl _) _
        replace XX := Lib.hid (XX.out.below hB2)
        replace YY := Lib.hid (YY.out.below hB2)
        replace BB := Lib.hid (BB.out.trans (hB2.mono BB.out.size))
        have c0 := XX.out.c0
        have c1 := XX.out.c1
        have c2 := XX.out.c2
        have c3 := XX.out.c3
        have y0 := YY.out.c0
        have y1 := YY.out.c1
        have y2 := YY.out.c2
        have y3 := YY.out.c3
        have g0 := YY.out.fr
        have Z2 := Lib.hid hW2
        clear hB2 hW2
        go_upto_region 3 with fail
        rw [← Z2.out]
        go_wp2
        have P := YY.out.put (y := x)
        have p0 := P.c0
        have p1 := P.c1
        have p2 := P.c2
        have p3 := P.c3
        exact bodyPost_ret (v := x.val) (by simp [results, Try.results61, go_sem, p0, p1, p2, p3, Nd.val]) rfl ⟨by rw [← WK.out, HW.out], below_put4 BB.out (Nat.le_succ _) _ _ _ _⟩
      | some b =>
        have HW := Lib.hid (wk_go SB.out.ends hk hb : wk σ x = wk σ b)
        have HM := Lib.hid (wkn_go SB.out.ends hk hb : wkn σ x = wkn σ b + 1)
        have hbn := (SB.out.at_ _ _ hb).2.1.2.2.1
        rw [valOf_some]
        clear hb
        obtain ⟨W2, hW2⟩ : ∃ W2, W2 = w1.alloc (.cells #[.int .u8 b.k, .string b.s, .int .i64 b.n, .slice b.p b.kids.len b.c] 25) := ⟨_, rfl⟩
        have hB2 : Below w1.heap.size w1 W2 := by rw [hW2]; exact (Below.refl _ _).alloc (Nat.le_refl _) _
        have NB := BoxIs.new w1 b 25
        rw [← hW2] at NB
        have hlt : w.heap.size + 1 < w1.heap.size := YY.out.lt
        replace XX := Lib.hid (XX.out.below hB2)
        replace YY := Lib.hid (YY.out.below hB2)
        replace BB := Lib.hid (BB.out.trans (hB2.mono BB.out.size))
        have c0 := XX.out.c0
        have c1 := XX.out.c1
        have c2 := XX.out.c2
        have c3 := XX.out.c3
        have g0 := XX.out.fr
        have y0 := NB.c0
        have y1 := NB.c1
        have y2 := NB.c2
        have y3 := NB.c3
        have Z2 := Lib.hid hW2
        clear hB2 hW2 NB
        go_upto_region 3 with fail
        rw [← Z2.out]
        go_wp2
        go_roundw
        case rel =>
          refine ⟨b, Lib.hid XX.out.put, Lib.hid (YY.out.of_block ?_), Lib.hid (below_put4 BB.out (Nat.le_refl _) _ _ _ _), Lib.hid (by rw [← HW.out]; exact WK.out), hbn⟩
          rw [Below.heap_setCell _ _ _ _ (by simp), Below.heap_setCell _ _ _ _ (by simp), Below.heap_setCell _ _ _ _ (by simp), Below.heap_setCell _ _ _ _ (by simp)]
        case measure =>
          rw [(XX.out.put (y := b)).far SB.out.ends, FAR.out, HM.out]
          omega
    · rw [Bool.not_eq_true] at hk
      have HK := Lib.hid hk
      go_wp2
      have P := YY.out.put (y := x)
      have p0 := P.c0
      have p1 := P.c1
      have p2 := P.c2
      have p3 := P.c3
      exact bodyPost_ret (v := x.val) (by simp [results, Try.results61, go_sem, p0, p1, p2, p3, Nd.val]) rfl ⟨by rw [← WK.out, wk_stop (.inl HK.out)], below_put4 BB.out (Nat.le_succ _) _ _ _ _⟩

/-- a term cloned: elsewhere, and alike -/
def CloneOf (x : Nd) (B : Nat) (v : Value) (w : World) : Prop := ∃ us q d, v = tv x.k x.s x.n q us.len d ∧ Ts.AtB B w q us ∧ Ts.twin us x.kids ∧ us.ok ∧ (us.len ≤ d ∧ d ≤ 9223372036854775807) ∧ (q = none → d = 0)

set_option maxRecDepth 100000 in
set_option maxHeartbeats 4000000 in
theorem walk_any (S : Nat) (σ : Sb) (m : Nat) (w : World) (h : SubAt S σ m w) (t : Nd) (hok : t.ok) (hat : Ts.At w t.p t.kids) (hsz : t.kids.size ≤ 5000) :
    Calls Try.prog 19 #[.pointer (some ⟨S, 0, none⟩), .agg #[.int .u8 t.k, .string t.s, .int .i64 t.n, .slice t.p t.kids.len t.c]] w fun e w' => ∃ v, e = .returned v ∧ CloneOf (wk σ t) w.heap.size v w' ∧ Below w.heap.size w w' := by
  have SB := Lib.hid h
  have hSl := h.lt
  have hn := hok.2.2.1
  obtain ⟨hwat, hwok, hwsz⟩ := h.walked ⟨hat, hok, hsz⟩
  have WA := Lib.hid hwat
  have WO := Lib.hid hwok
  clear h hwat hwok hok hat
  go_enter Try.func19, Try.ntmps19
  go_wp2_with fail
  obtain ⟨W0, hW0⟩ : ∃ W0, W0 = (w.alloc (.cells #[.int .u8 t.k, .string t.s, .int .i64 t.n, .slice t.p t.kids.len t.c] 25)).alloc (.cells #[.int .u8 0, .string ⟨#[]⟩, .int .i64 0, .slice none 0 0] 25) := ⟨_, rfl⟩
  rw [← hW0]
  have hB0 : Below w.heap.size w W0 := by rw [hW0]; exact below2 _ _ _
  have hY0 : BoxIs (w.heap.size + 1) ⟨0, ⟨#[]⟩, 0, none, 0, .nil⟩ W0 := by
    have := BoxIs.new (w.alloc (.cells #[.int .u8 t.k, .string t.s, .int .i64 t.n, .slice t.p t.kids.len t.c] 25)) ⟨0, ⟨#[]⟩, 0, none, 0, .nil⟩ 25
    rw [World.size_alloc] at this
    rw [hW0]; exact this
  have B0 := Lib.hid hB0
  have Y0 := Lib.hid hY0
  clear hW0 hB0 hY0
  refine (walked_any S σ m W0 (SB.out.below B0.out) t.k t.s t.n t.p t.kids t.c hn).mono ?_
  rintro e w1 ⟨rfl, hB1⟩
  have B1 := Lib.hid (B0.out.trans (hB1.mono B0.out.size))
  replace Y0 := Lib.hid (Y0.out.below hB1)
  clear hB1
  have hlt : w.heap.size + 1 < w1.heap.size := Y0.out.lt
  unfold Nd.val
  go_wp2_with fail
  refine (sclone_any _ (wk σ t).kids (Nat.lt_succ_self _) (by omega) WO.out.2.2.2.2.2.1 (wk σ t).k (wk σ t).s (wk σ t).n w1 (wk σ t).p (wk σ t).c (WA.out.below B1.out)).mono ?_
  rintro e w2 ⟨us, q, d, rfl, hat2, htw, hok2, hcl, hqn, hB2⟩
  unfold tv
  have B2 := Lib.hid (B1.out.trans (hB2.mono B1.out.size))
  replace Y0 := Lib.hid (Y0.out.below hB2)
  have hs1 := B1.out.size
  have AT2 := Lib.hid hat2
  have TW := Lib.hid htw
  have OK2 := Lib.hid hok2
  have QN := Lib.hid hqn
  have y0 := Y0.out.c0
  have y1 := Y0.out.c1
  have y2 := Y0.out.c2
  have y3 := Y0.out.c3
  have g0 := Y0.out.fr
  clear hB2 hat2 htw hok2 hqn
  go_wp2
  have P := Y0.out.put (y := ⟨(wk σ t).k, (wk σ t).s, (wk σ t).n, q, d, us⟩)
  have p0 := P.c0
  have p1 := P.c1
  have p2 := P.c2
  have p3 := P.c3
  simp only at p0 p1 p2 p3
  refine bodyPost_ret (v := tv (wk σ t).k (wk σ t).s (wk σ t).n q us.len d) (by simp [results, Try.results19, go_sem, p0, p1, p2, p3, tv]) rfl ⟨_, rfl, ⟨us, q, d, rfl, ?_, TW.out, OK2.out, hcl, QN.out⟩, below_put4 B2.out (Nat.le_succ _) _ _ _ _⟩
  refine AT2.out.stay hs1 fun b y hb _ => World.cell?_of_block (a := ⟨b, y, none⟩) ?_
  rw [Below.heap_setCell _ _ _ _ (by simp; omega), Below.heap_setCell _ _ _ _ (by simp; omega), Below.heap_setCell _ _ _ _ (by simp; omega), Below.heap_setCell _ _ _ _ (by simp; omega)]

end Go.Proofs.Ytnmhnaanpjlniaa
