import Derived.Test.YtflomdnjabgnaaaAc
import Derived.Deep.QuietTactic
import Derived.BigQuiet
import Derived.Deep.DeepCutAuto
/-
  Layer 3: what a number is bound to.
-/
namespace Go.Proofs.Ytflomdnjabgnaaa
open Go.RowKit Go.Maps

theorem valOf_none : valOf Option.none = .agg #[.int .u8 0, .string ⟨#[]⟩, .int .i64 0, .slice Option.none 0 0] := rfl
theorem valOf_some (x : Nd) : valOf (some x) = .agg #[.int .u8 x.k, .string x.s, .int .i64 x.n, .slice x.p x.kids.len x.c] := rfl

theorem SubAt.cell0 {w : World} {S : Nat} {a b c : Value} {t : TypeId} (h : w.heap[S]? = some (.cells #[a, b, c] t (0, 0))) : w.cell? ⟨S, 0, none⟩ = some a ∧ w.cell? ⟨S, 1, none⟩ = some b ∧ w.cell? ⟨S, 2, none⟩ = some c ∧ ∀ i, w.frozen? ⟨S, i, none⟩ = false :=
  ⟨by rw [cell_of_row w S 0 _ _ _ h]; rfl, by rw [cell_of_row w S 1 _ _ _ h]; rfl, by rw [cell_of_row w S 2 _ _ _ h]; rfl, fun i => frozen_of_row w S i _ _ h⟩

theorem below_put4 {B b : Nat} {w W : World} (h : Below B w W) (hb : B ≤ b) (v0 v1 v2 v3 : Value) : Below B w ((((W.setCell ⟨b, 0, none⟩ v0).setCell ⟨b, 1, none⟩ v1).setCell ⟨b, 2, none⟩ v2).setCell ⟨b, 3, none⟩ v3) :=
  (((h.setCell (p := ⟨b, 0, none⟩) hb _).setCell (p := ⟨b, 1, none⟩) hb _).setCell (p := ⟨b, 2, none⟩) hb _).setCell (p := ⟨b, 3, none⟩) hb _

theorem NodeAt.drewN {w : World} {c l : Nat} {p : Option Addr} {f : Sb} (h : NodeAt w c l p f) (k : Nat) : NodeAt (w.drewN k) c l p f :=
  h.stay (Nat.le_refl _) (fun b _ => by rfl)

set_option maxRecDepth 100000 in
set_option maxHeartbeats 4000000 in
theorem binding_any (S : Nat) (σ : Sb) (m : Nat) (w : World) (h : SubAt S σ m w) (v : Int) (hv : -9223372036854775808 ≤ v ∧ v ≤ 9223372036854775807) :
    Calls Try.prog 62 #[.pointer (some ⟨S, 0, none⟩), .int .i64 v] w fun e w' => e = .returned (.tuple #[valOf (σ v), .bool (σ v).isSome]) ∧ Below w.heap.size w w' := by
  obtain ⟨p, hh, hS, hh15, hN, hdom⟩ := h.cells
  obtain ⟨h0, h1, -, -⟩ := SubAt.cell0 hS
  have hSl := World.block_lt_of_cell? _ _ h0
  by_cases hv0 : v < 0
  · have hn : σ v = none := by
      cases hs : σ v with
      | none => rfl
      | some x => have := (hdom v (by rw [hs]; simp)).1; omega
    rw [hn, valOf_none]
    clear hdom hn hN h hS
    go_enter Try.func62, Try.ntmps62
    go_wp2
    exact bodyPost_ret (v := .tuple #[.agg #[.int .u8 0, .string ⟨#[]⟩, .int .i64 0, .slice none 0 0], .bool false]) (by simp [results, Try.results62, go_sem]) rfl ⟨rfl, (Below.refl _ _).alloc (Nat.le_refl _) _⟩
  have g0 := fun (o : Obj) => cell_alloc_old o h0
  have g1 := fun (o : Obj) => cell_alloc_old o h1
  by_cases hb : isBeyond v hh
  · have hn : σ v = none := by
      cases hs : σ v with
      | none => rfl
      | some x => exact absurd hb (hdom v (by rw [hs]; simp)).2.2
    rw [hn, valOf_none]
    clear hdom hn hN h hS
    go_enter Try.func62, Try.ntmps62
    go_wp2_with fail
    refine (beyond_yes v (by omega) hh hh15 hb _).mono ?_
    rintro e w' ⟨rfl, rfl⟩
    go_wp2
    exact bodyPost_ret (v := .tuple #[.agg #[.int .u8 0, .string ⟨#[]⟩, .int .i64 0, .slice none 0 0], .bool false]) (by simp [results, Try.results62, go_sem]) rfl ⟨rfl, (Below.refl _ _).alloc (Nat.le_refl _) _⟩
  · have NN : Hid (NodeAt w m hh p σ) := Lib.hid hN
    have K := Maps.int_keyed Try.underlying2
    have hkey : keyOf Try.prog 2 (.int .i64 v) = some (.int .i64 v) := Maps.keyOf_int_mk Try.underlying2 (wf64 (by omega))
    clear hdom hN h hS
    go_enter Try.func62, Try.ntmps62
    go_wp2_with fail
    refine (beyond_no v (by omega) hh hh15 hb _).mono ?_
    rintro e w' ⟨rfl, rfl⟩
    go_wp2_with fail
    obtain ⟨W0, hW0⟩ : ∃ W0, W0 = w.alloc (.cells #[.int .u8 0, .string ⟨#[]⟩, .int .i64 0, .slice none 0 0] 24) := ⟨_, rfl⟩
    rw [← hW0]
    have hs0 : W0.heap.size = w.heap.size + 1 := by rw [hW0]; simp
    have Z0 := Lib.hid hW0
    have N0 : Hid (NodeAt W0 m hh p σ) := Lib.hid (NN.out.below (by rw [hW0]; exact (Below.refl _ _).alloc (Nat.le_refl _) _))
    clear hW0
    go_loopw [6, 7] (fun s6 s7 wr => ∃ (q : Option Addr) (l : Nat) (f : Sb), s6 = .pointer q ∧ s7 = .int .u64 l ∧ l ≤ 15 ∧ Hid (NodeAt wr m l q f ∧ f v = σ v) ∧ Hid (∃ k, wr = W0.drewN k)) (fun _ i _ => (intOf i).toNat)
    case atStart => exact ⟨p, hh, σ, rfl, rfl, hh15, Lib.hid ⟨N0.out, rfl⟩, Lib.hid ⟨0, rfl⟩⟩
    case round =>
      obtain ⟨q, l, f, rfl, rfl, hl15, NF, WR⟩ := hrel
      have hst : (∃ x : Addr, q = some x) ∨ q = none := by cases q <;> simp
      by_cases hgo : 0 < l ∧ ∃ x : Addr, q = some x
      · obtain ⟨hl0, x, rfl⟩ := hgo
        obtain ⟨l', rfl⟩ : ∃ l', l = l' + 1 := ⟨l - 1, by omega⟩
        obtain ⟨N, ks, hx, hNh, hkids⟩ : ∃ N ks, x = ⟨N, 0, none⟩ ∧ wr.heap[N]? = some (.cells (kidCells ks (.map none)) 86 (0, 0)) ∧ ∀ i, i < 16 → NodeAt wr m l' (ks i) (only f (l' + 1) i) := by
          rcases NF.out.1 with ⟨h, _⟩ | ⟨N, ks, h1, h2, h3⟩
          · cases h
          · cases h1; exact ⟨N, ks, rfl, h2, h3⟩
        subst hx
        have hki := kidOf_lt v (l' + 1)
        have hck : wr.cell? ⟨N, kidOf v (l' + 1), none⟩ = some (.pointer (ks (kidOf v (l' + 1)))) := by rw [cell_of_row wr N _ _ _ _ hNh]; exact kidCells_kid ks _ _ hki
        have NK := Lib.hid hkids
        clear hNh hkids
        have hk0 : 0 ≤ (kidOf v (l' + 1) : Int) := by omega
        have hk16 : (kidOf v (l' + 1) : Int) < 16 := by omega
        go_upto_region 7 with fail
        go_quiet ((go_at_call 79; exact Calls.quiet_of_same (kid_at _ (by omega) (l' + 1) (by omega) _ (by omega) _)))
        go_wp2
        go_roundw
        case rel =>
          refine ⟨ks (kidOf v (l' + 1)), l', only f (l' + 1) (kidOf v (l' + 1)), rfl, by go_num, by omega, Lib.hid ⟨(NK.out _ hki).drewN _, ?_⟩, Lib.hid ?_⟩
          · show (if kidOf v (l' + 1) = kidOf v (l' + 1) then f v else none) = σ v
            rw [if_pos rfl]; exact NF.out.2
          · obtain ⟨k, rfl⟩ := WR.out
            exact ⟨_, World.drewN_drewN _ _ _⟩
        case measure => simp [intOf]
      · obtain ⟨k, hwr⟩ := WR.out
        rw [Z0.out] at hwr
        subst hwr
        have hBw : Below w.heap.size w ((w.alloc (.cells #[.int .u8 0, .string ⟨#[]⟩, .int .i64 0, .slice none 0 0] 24)).drewN k) := below_drewN ((Below.refl _ _).alloc (Nat.le_refl _) _) _
        have BW := Lib.hid hBw
        clear hBw WR Z0
        cases q with
        | none =>
          have hn : σ v = none := by rw [← NF.out.2]; exact NF.out.1.of_none v
          have HN := Lib.hid hn
          clear hn hst hgo
          go_wp2
          exact bodyPost_ret (v := .tuple #[.agg #[.int .u8 0, .string ⟨#[]⟩, .int .i64 0, .slice none 0 0], .bool false]) (by simp [results, Try.results62, go_sem]) rfl ⟨by rw [HN.out]; rfl, below_put4 BW.out (Nat.le_refl _) _ _ _ _⟩
        | some x =>
          obtain rfl : l = 0 := by
            cases l with
            | zero => rfl
            | succ l => exact absurd ⟨Nat.succ_pos _, x, rfl⟩ hgo
          clear hst hgo
          obtain ⟨N, MB, hx, hNh, m2, D, hm2, hown, hD⟩ : ∃ N MB, x = ⟨N, 0, none⟩ ∧ ((w.alloc (.cells #[.int .u8 0, .string ⟨#[]⟩, .int .i64 0, .slice none 0 0] 24)).drewN k).heap[N]? = some (.cells (kidCells (fun _ => none) (.map (some MB))) 86 (0, 0)) ∧ LeafIs ((w.alloc (.cells #[.int .u8 0, .string ⟨#[]⟩, .int .i64 0, .slice none 0 0] 24)).drewN k) m MB f := by
            rcases NF.out.1 with ⟨h, _⟩ | ⟨N, ks, h1, h2, h3⟩
            · cases h
            · cases h1; exact ⟨N, ks, rfl, h2, h3⟩
          subst hx
          obtain ⟨hb1, hb2⟩ := hD v hv
          rw [NF.out.2] at hb1 hb2
          have h16 : (w.alloc (.cells #[.int .u8 0, .string ⟨#[]⟩, .int .i64 0, .slice none 0 0] 24)).cell? ⟨N, 16, none⟩ = some (.map (some MB)) := (cell_of_row _ N 16 _ _ _ hNh).trans (kidCells_last _ _)
          have HB := Lib.hid hb1
          have HV := Lib.hid hb2
          have OWN := Lib.hid hown
          clear hb1 hb2 hown hD hNh
          cases hs : σ v with
          | none =>
            rw [hs] at HB HV
            have HS := Lib.hid hs
            clear hs
            go_wp2_with (at_lookup; refine wpList_lookup_own_ok _ rfl _ _ 84 rfl 2 24 K Try.underlying84 heldElem (zeroTermRun _) (.held zeroTerm) [] rfl MB m2 D rfl OWN.out _ _ rfl hkey ?_; intro v5 ps hv5; obtain rfl := held_inv hv5 HV.out; clear hv5; rw [HB.out, valOf_none])
            exact bodyPost_ret (v := .tuple #[.agg #[.int .u8 0, .string ⟨#[]⟩, .int .i64 0, .slice none 0 0], .bool false]) (by simp [results, Try.results62, go_sem]) rfl ⟨by rw [HS.out]; rfl, (below_put4 BW.out (Nat.le_refl _) _ _ _ _).alloc (by simp) _⟩
          | some y =>
            rw [hs] at HB HV
            have HS := Lib.hid hs
            clear hs
            go_wp2_with (at_lookup; refine wpList_lookup_own_ok _ rfl _ _ 84 rfl 2 24 K Try.underlying84 heldElem (zeroTermRun _) (.held zeroTerm) [] rfl MB m2 D rfl OWN.out _ _ rfl hkey ?_; intro v5 ps hv5; obtain rfl := held_inv hv5 HV.out; clear hv5; rw [HB.out, valOf_some])
            exact bodyPost_ret (v := .tuple #[.agg #[.int .u8 y.k, .string y.s, .int .i64 y.n, .slice y.p y.kids.len y.c], .bool true]) (by simp [results, Try.results62, go_sem]) rfl ⟨by rw [HS.out]; rfl, (below_put4 BW.out (Nat.le_refl _) _ _ _ _).alloc (by simp) _⟩

end Go.Proofs.Ytflomdnjabgnaaa
