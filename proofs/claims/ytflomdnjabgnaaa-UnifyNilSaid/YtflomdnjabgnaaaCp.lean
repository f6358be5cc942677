import Derived.Test.YtflomdnjabgnaaaCo
import Derived.Test.YtflomdnjabgnaaaAn
/-
  Layer 4: unifications of terms that are known.
-/
namespace Go.Proofs.Ytflomdnjabgnaaa
open Go.RowKit

def nV (n : Int) : Nd := ⟨1, ⟨#[]⟩, n, none, 0, .nil⟩
def nA : Nd := ⟨3, ⟨#[97]⟩, 0, none, 0, .nil⟩
def nF (ks : Ts) : Nd := ⟨4, ⟨#[102]⟩, 0, none, 0, ks⟩
def tV (n : Int) (r : Ts) : Ts := .cons 1 ⟨#[]⟩ n none 0 .nil r
def tA : Ts := .cons 3 ⟨#[97]⟩ 0 none 0 .nil .nil
/-- what the first one binds -/
noncomputable def sb2 : Sb := (Sb.none.put 0 (nV 1)).put 1 nA

theorem vis_leaf {σ : Sb} {r : Nat} {t : Nd} (hw : wk σ t = t) (hk : t.kids = .nil) : vis σ (r + 1) [t] = [t] := by
  simp only [vis, hw, hk, elems, List.nil_append, vis_nil]

theorem bnd_leaf {r : Nat} {σ : Sb} {v : Int} {t : Nd} (hr : 1 ≤ r) (hv : 0 ≤ v) (hw : wk σ t = t) (hk : t.kids = .nil) (hne : ((t.k == 1) && (t.n == v)) = false) : bnd r σ v t = .ok (r - 1) := by
  unfold bnd
  rw [vis_leaf hw hk]
  simp only [posA, hne, Bool.false_eq_true, if_false, List.length_cons, List.length_nil]
  rw [if_neg (by omega), if_neg (by omega), if_neg (by omega)]

theorem one_leaf {r c : Nat} {σ : Sb} {a b : Nd} (hr : 1 ≤ r) (hwa : wk σ a = a) (hwb : wk σ b = b) (ha : (a.k == 1) = true) (hv : 0 ≤ a.n) (hk : b.kids = .nil) (hne : ((b.k == 1) && (b.n == a.n)) = false) : one r c σ a b = .ok (σ.put a.n b) (c + 1) (r - 1) [] := by
  have h2 : ¬ (((wk σ b).k == 1) = true ∧ (wk σ a).n = (wk σ b).n) := by
    rw [hwa, hwb]
    rintro ⟨h, h'⟩
    rw [h, h'] at hne
    simp at hne
  rw [one_x (by rw [hwa]; exact ha) h2, hwa, hwb, bnd_leaf hr hv hwb hk hne]
  simp only
  rw [Nat.min_eq_left (by omega)]

theorem un_first : un 4096 0 Sb.none [(nF (tV 0 (tV 1 .nil)), nF (tV 1 tA))] = .ok sb2 2 4091 := by
  have wF : ∀ ks, wk Sb.none (nF ks) = nF ks := fun ks => wk_stop (.inl rfl)
  have h1 : one 4095 0 Sb.none (nF (tV 0 (tV 1 .nil))) (nF (tV 1 tA)) = .ok Sb.none 0 4095 [(nV 0, nV 1), (nV 1, nA)] := by
    rw [one_struct (by rw [wF]; rfl) (by rw [wF]; rfl), wF, wF, if_pos (by decide +kernel)]
    rfl
  have h2 : one 4094 0 Sb.none (nV 0) (nV 1) = .ok (Sb.none.put 0 (nV 1)) 1 4093 [] := one_leaf (by omega) (wk_stop (.inr rfl)) (wk_stop (.inr rfl)) rfl (by decide) rfl rfl
  have n1 : (Sb.none.put 0 (nV 1)) (nV 1).n = none := by rw [Sb.put_other (by decide)]; rfl
  have h3 : one 4092 1 (Sb.none.put 0 (nV 1)) (nV 1) nA = .ok sb2 2 4091 [] := one_leaf (by omega) (wk_stop (.inr n1)) (wk_stop (.inl rfl)) rfl (by decide) rfl rfl
  rw [show (4096 : Nat) = 4095 + 1 from rfl, un_ok h1, List.append_nil, show (4095 : Nat) = 4094 + 1 from rfl, un_ok h2, List.nil_append, show (4093 : Nat) = 4092 + 1 from rfl, un_ok h3, List.nil_append, un_nil]

theorem un_second : un 4096 0 Sb.none [(nV 0, nF (tV 0 .nil))] = .no := by
  have w0 : wk Sb.none (nV 0) = nV 0 := wk_stop (.inr rfl)
  have wF : wk Sb.none (nF (tV 0 .nil)) = nF (tV 0 .nil) := wk_stop (.inl rfl)
  have h1 : one 4095 0 Sb.none (nV 0) (nF (tV 0 .nil)) = .no := by
    have hb : bnd 4095 Sb.none 0 (nF (tV 0 .nil)) = .no := by
      have hv : vis Sb.none (4095 + 1) [nF (tV 0 .nil)] = [nF (tV 0 .nil), nV 0] := by
        have w0' : wk Sb.none ⟨1, ⟨#[]⟩, 0, none, 0, .nil⟩ = ⟨1, ⟨#[]⟩, 0, none, 0, .nil⟩ := w0
        have wF' : wk Sb.none ⟨4, ⟨#[102]⟩, 0, none, 0, .cons 1 ⟨#[]⟩ 0 none 0 .nil .nil⟩ = ⟨4, ⟨#[102]⟩, 0, none, 0, .cons 1 ⟨#[]⟩ 0 none 0 .nil .nil⟩ := wF
        simp only [nF, nV, tV, vis, wF', elems, List.append_nil, w0', vis_nil, List.nil_append]
      unfold bnd
      rw [hv]
      rw [if_pos (by simp [posA, nF, nV])]
    rw [one_x (by rw [w0]; rfl) (by rw [wF]; rintro ⟨h, _⟩; exact absurd h (by decide)), w0, wF, show (nV 0).n = 0 from rfl, hb]
  rw [show (4096 : Nat) = 4095 + 1 from rfl, un_no h1]

theorem un_third : un 4096 0 Sb.none [(nA, ⟨2, ⟨#[]⟩, 1, none, 0, .nil⟩)] = .no := by
  have w0 : wk Sb.none nA = nA := wk_stop (.inl rfl)
  have w1 : wk Sb.none ⟨2, ⟨#[]⟩, 1, none, 0, .nil⟩ = ⟨2, ⟨#[]⟩, 1, none, 0, .nil⟩ := wk_stop (.inl rfl)
  have h1 : one 4095 0 Sb.none nA ⟨2, ⟨#[]⟩, 1, none, 0, .nil⟩ = .no := by
    rw [one_struct (by rw [w0]; rfl) (by rw [w1]; rfl), w0, w1, if_neg (by decide +kernel)]
  rw [show (4096 : Nat) = 4095 + 1 from rfl, un_no h1]

theorem LRes.no_of {w w' : World} {X Y X' Y' : Nd} {e : Ending} (h : LRes Sb.none 0 w [(X, Y)] e w') (hx : X.twin X') (hy : Y.twin Y') (hu : un 4096 0 Sb.none [(X', Y')] = .no) : e = .returned (.tuple #[.pointer none, .bool false, .int .i64 0]) := by
  have ht := un_tw 4096 0 (STw.refl Sb.none) Ends.none (.cons hx hy .nil)
  rw [hu] at ht
  obtain ⟨_, h2⟩ := h
  cases hE : un 4096 0 Sb.none [(X, Y)] with
  | full => rw [hE] at ht; exact ht.elim
  | no => rw [hE] at h2; exact h2
  | ok ρ c r => rw [hE] at ht; exact ht.elim

theorem LRes.ok_of {w w' : World} {X Y X' Y' : Nd} {e : Ending} (h : LRes Sb.none 0 w [(X, Y)] e w') (hx : X.twin X') (hy : Y.twin Y') {ρ : Sb} {c r : Nat} (hu : un 4096 0 Sb.none [(X', Y')] = .ok ρ c r) : ∃ S2 σp, e = .returned (.tuple #[.pointer (some ⟨S2, 0, none⟩), .bool true, .int .i64 0]) ∧ w.heap.size ≤ S2 ∧ STw σp ρ ∧ SubAt S2 σp c w' := by
  have ht := un_tw 4096 0 (STw.refl Sb.none) Ends.none (.cons hx hy .nil)
  rw [hu] at ht
  obtain ⟨_, h2⟩ := h
  cases hE : un 4096 0 Sb.none [(X, Y)] with
  | full => rw [hE] at ht; exact ht.elim
  | no => rw [hE] at ht; exact ht.elim
  | ok ρ2 c2 r2 =>
    rw [hE] at ht h2
    obtain ⟨g1, rfl, rfl⟩ := ht
    obtain ⟨S2, σp, k1, k2, k3, k4, _⟩ := h2
    exact ⟨S2, σp, k1, k2, k3.trans g1, k4⟩

/-- the first variable, applied -/
theorem applied_first {σp : Sb} (h : STw σp sb2) (hE : Ends σp) {B : Nat} {e : Ending} {w' : World} (ha : Applied σp (nV 0) B e w') : ∃ q, e = .returned (.tuple #[.agg #[.int .u8 3, .string ⟨#[97]⟩, .int .i64 0, .slice q 0 0], .int .i64 0]) ∧ Ts.At w' q .nil := by
  have hE2 : Ends sb2 := h.ends hE
  have b0 : sb2 (nV 0).n = some (nV 1) := by unfold sb2; rw [Sb.put_other (by decide)]; exact Sb.put_same _ _ _
  have b1 : sb2 (nV 1).n = some nA := by unfold sb2; exact Sb.put_same _ _ _
  have hw2 : wk sb2 (nV 0) = nA := by rw [wk_go hE2 rfl b0, wk_go hE2 rfl b1]; exact wk_stop (.inl rfl)
  have hw := h.wk hE (Nd.twin_refl (nV 0))
  rw [hw2] at hw
  obtain ⟨hk, hs, hn, hkd⟩ := hw
  have hnil : (wk σp (nV 0)).kids = .nil := by
    cases hc : (wk σp (nV 0)).kids with
    | nil => rfl
    | cons => rw [hc] at hkd; exact hkd.elim
  have hvis : (vis σp 4097 [nV 0]).length = 1 := by
    simp only [vis, hnil, elems, List.nil_append, vis_nil, List.length_cons, List.length_nil]
  rcases ha with ⟨h1, _⟩ | ⟨_, us, q, h1, h2, h3, h4, h5⟩
  · omega
  · rw [hnil] at h3
    have hus : us = .nil := by
      cases us with
      | nil => rfl
      | cons => cases h3
    subst hus
    rw [hk, hs, hn] at h1
    exact ⟨q, h1, h2.at⟩

end Go.Proofs.Ytflomdnjabgnaaa
