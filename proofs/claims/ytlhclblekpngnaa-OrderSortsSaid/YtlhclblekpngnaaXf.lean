/-
  Layer 2: plain facts of insertions into a list of its own.
-/
import Derived.Test.YtlhclblekpngnaaXe
namespace Go.Proofs.Ytlhclblekpngnaa
open Go.RowKit

/-- two neighbours change places -/
def Ts.swap : Nat → Ts → Ts
  | 0, .cons k s n p c ks (.cons k' s' n' p' c' ks' r) => .cons k' s' n' p' c' ks' (.cons k s n p c ks r)
  | j + 1, .cons k s n p c ks r => .cons k s n p c ks (Ts.swap j r)
  | _, ts => ts

theorem swap_len : ∀ (j : Nat) (ts : Ts), (ts.swap j).len = ts.len
  | 0, .nil => rfl
  | 0, .cons _ _ _ _ _ _ .nil => rfl
  | 0, .cons _ _ _ _ _ _ (.cons ..) => rfl
  | _ + 1, .nil => rfl
  | j + 1, .cons _ _ _ _ _ _ r => by simp only [Ts.swap, Ts.len, swap_len j r]

theorem swap_size : ∀ (j : Nat) (ts : Ts), (ts.swap j).size = ts.size
  | 0, .nil => rfl
  | 0, .cons _ _ _ _ _ _ .nil => rfl
  | 0, .cons _ _ _ _ _ _ (.cons ..) => by simp only [Ts.swap, Ts.size]; omega
  | _ + 1, .nil => rfl
  | j + 1, .cons _ _ _ _ _ _ r => by simp only [Ts.swap, Ts.size, swap_size j r]

theorem swap_ok : ∀ (j : Nat) (ts : Ts), ts.ok → (ts.swap j).ok
  | 0, .nil, h => h
  | 0, .cons _ _ _ _ _ _ .nil, h => h
  | 0, .cons _ _ _ _ _ _ (.cons ..), ⟨h1, h2, h3, h4, h5, h6, h1', h2', h3', h4', h5', h6', h7⟩ => ⟨h1', h2', h3', h4', h5', h6', h1, h2, h3, h4, h5, h6, h7⟩
  | _ + 1, .nil, h => h
  | j + 1, .cons _ _ _ _ _ _ r, ⟨h1, h2, h3, h4, h5, h6, h7⟩ => ⟨h1, h2, h3, h4, h5, h6, swap_ok j r h7⟩

theorem two_at {ts : Ts} {j : Nat} (h : j + 1 < ts.len) : ∃ k s n p c ks k' s' n' p' c' ks' r, ts.drop j = .cons k s n p c ks (.cons k' s' n' p' c' ks' r) := by
  obtain ⟨k, s, n, p, c, ks, r, hd⟩ := Ts.drop_cons (show j < ts.len by omega)
  obtain ⟨k', s', n', p', c', ks', r', hd'⟩ := Ts.drop_cons h
  have := Ts.drop_succ j ts hd
  rw [hd'] at this
  exact ⟨k, s, n, p, c, ks, k', s', n', p', c', ks', r', by rw [hd, this]⟩

theorem SRow.from {R : Nat} {w w' : World} : ∀ {us : Ts} {o : Nat}, (∀ y, o ≤ y → w'.cell? ⟨R, y, none⟩ = w.cell? ⟨R, y, none⟩) → (∀ b y, b ≠ R → w'.cell? ⟨b, y, none⟩ = w.cell? ⟨b, y, none⟩) → SRow R w o us → SRow R w' o us
  | .nil, _, _, _, _ => trivial
  | .cons _ _ _ _ _ _ _, o, hc, ho, ⟨h0, h1, h2, h3, h4, h5⟩ => ⟨(hc _ (by omega)).trans h0, (hc _ (by omega)).trans h1, (hc _ (by omega)).trans h2, (hc _ (by omega)).trans h3, h4.stay (Nat.le_refl _) (fun b y hb _ => ho b y (by omega)), SRow.from (fun y hy => hc y (by omega)) ho h5⟩

theorem SRow.get {R : Nat} {w : World} {k : Int} {s : ByteArray} {n : Int} {p : Option Addr} {c : Nat} {kids rest : Ts} : ∀ {j : Nat} {us : Ts} {o : Nat}, SRow R w o us → us.drop j = .cons k s n p c kids rest → SRow R w (o + j * 4) (.cons k s n p c kids rest)
  | 0, us, o, h, hd => by
    rw [show us.drop 0 = us from by cases us <;> rfl] at hd
    rw [← hd]
    simpa using h
  | j + 1, .nil, _, _, hd => by cases hd
  | j + 1, .cons _ _ _ _ _ _ r, o, h, hd => by
    have := SRow.get (j := j) h.2.2.2.2.2 hd
    rw [show o + (j + 1) * 4 = o + 4 + j * 4 from by omega]
    exact this

theorem SRow.swap {R : Nat} {w w' : World} {k : Int} {s : ByteArray} {n : Int} {p : Option Addr} {c : Nat} {ks : Ts} {k' : Int} {s' : ByteArray} {n' : Int} {p' : Option Addr} {c' : Nat} {ks' r : Ts} (hoth : ∀ b y, b ≠ R → w'.cell? ⟨b, y, none⟩ = w.cell? ⟨b, y, none⟩) :
    ∀ {j : Nat} {us : Ts} {o : Nat}, SRow R w o us → us.drop j = .cons k s n p c ks (.cons k' s' n' p' c' ks' r) →
    w'.cell? ⟨R, o + j * 4, none⟩ = some (.int .u8 k') → w'.cell? ⟨R, o + j * 4 + 1, none⟩ = some (.string s') → w'.cell? ⟨R, o + j * 4 + 2, none⟩ = some (.int .i64 n') → w'.cell? ⟨R, o + j * 4 + 3, none⟩ = some (.slice p' ks'.len c') →
    w'.cell? ⟨R, o + j * 4 + 4, none⟩ = some (.int .u8 k) → w'.cell? ⟨R, o + j * 4 + 5, none⟩ = some (.string s) → w'.cell? ⟨R, o + j * 4 + 6, none⟩ = some (.int .i64 n) → w'.cell? ⟨R, o + j * 4 + 7, none⟩ = some (.slice p ks.len c) →
    (∀ y, y < o + j * 4 ∨ o + j * 4 + 8 ≤ y → w'.cell? ⟨R, y, none⟩ = w.cell? ⟨R, y, none⟩) → SRow R w' o (us.swap j)
  | 0, us, o, h, hd, c0, c1, c2, c3, c4, c5, c6, c7, hrest => by
    rw [show us.drop 0 = us from by cases us <;> rfl] at hd
    subst hd
    simp only [Nat.zero_mul, Nat.add_zero] at *
    obtain ⟨_, _, _, _, a4, _, _, _, _, b4, hr⟩ := h
    exact ⟨c0, c1, c2, c3, b4.stay (Nat.le_refl _) (fun b y hb _ => hoth b y (by omega)), c4, c5, c6, c7, a4.stay (Nat.le_refl _) (fun b y hb _ => hoth b y (by omega)), SRow.from (fun y hy => hrest y (.inr (by omega))) hoth hr⟩
  | j + 1, .nil, _, _, hd, _, _, _, _, _, _, _, _, _ => by cases hd
  | j + 1, .cons _ _ _ _ _ _ _, o, h, hd, c0, c1, c2, c3, c4, c5, c6, c7, hrest => by
    have e : o + (j + 1) * 4 = o + 4 + j * 4 := by omega
    rw [e] at c0 c1 c2 c3 c4 c5 c6 c7 hrest
    obtain ⟨h0, h1, h2, h3, h4, h5⟩ := h
    exact ⟨(hrest _ (.inl (by omega))).trans h0, (hrest _ (.inl (by omega))).trans h1, (hrest _ (.inl (by omega))).trans h2, (hrest _ (.inl (by omega))).trans h3, h4.stay (Nat.le_refl _) (fun b y hb _ => hoth b y (by omega)), SRow.swap hoth h5 hd c0 c1 c2 c3 c4 c5 c6 c7 hrest⟩

/-- a term into a list's place -/
theorem put4 (w' : World) (R x : Nat) (v0 v1 v2 v3 : Value) (r0 : (w'.cell? ⟨R, x, none⟩).isSome) (r1 : (w'.cell? ⟨R, x + 1, none⟩).isSome) (r2 : (w'.cell? ⟨R, x + 2, none⟩).isSome) (r3 : (w'.cell? ⟨R, x + 3, none⟩).isSome) :
    ∃ W, W = ((((w'.setCell ⟨R, x, none⟩ v0).setCell ⟨R, x + 1, none⟩ v1).setCell ⟨R, x + 2, none⟩ v2).setCell ⟨R, x + 3, none⟩ v3) ∧ W.heap.size = w'.heap.size ∧
      (∀ b y, b ≠ R → W.cell? ⟨b, y, none⟩ = w'.cell? ⟨b, y, none⟩) ∧ (∀ y, y < x ∨ x + 4 ≤ y → W.cell? ⟨R, y, none⟩ = w'.cell? ⟨R, y, none⟩) ∧
      W.cell? ⟨R, x, none⟩ = some v0 ∧ W.cell? ⟨R, x + 1, none⟩ = some v1 ∧ W.cell? ⟨R, x + 2, none⟩ = some v2 ∧ W.cell? ⟨R, x + 3, none⟩ = some v3 ∧ (∀ b y, W.frozen? ⟨b, y, none⟩ = w'.frozen? ⟨b, y, none⟩) ∧
      (∀ B (w : World), B ≤ R → Below B w w' → Below B w W) := by
  have hneq : ∀ y z : Nat, y ≠ z → (⟨R, y, none⟩ : Addr) ≠ ⟨R, z, none⟩ := fun y z h e => h (by injection e)
  have other : ∀ (u : World) (p q : Addr) (v : Value), p ≠ q → (u.setCell p v).cell? q = u.cell? q := fun u p q v h => World.cell?_setCell_other _ _ _ _ h
  have same : ∀ (u : World) (p : Addr) (v y : Value), u.cell? p = some y → (u.setCell p v).cell? p = some v := fun u p v y h => World.cell?_setCell_same _ _ _ h
  obtain ⟨u0, r0⟩ := Option.isSome_iff_exists.1 r0
  obtain ⟨u1, r1⟩ := Option.isSome_iff_exists.1 r1
  obtain ⟨u2, r2⟩ := Option.isSome_iff_exists.1 r2
  obtain ⟨u3, r3⟩ := Option.isSome_iff_exists.1 r3
  refine ⟨_, rfl, by simp, fun b y h2 => ?_, fun y hy => ?_, ?_, ?_, ?_, ?_, fun b y => by simp, fun B w hR hB => ?_⟩
  · have hb : ∀ z : Nat, (⟨R, z, none⟩ : Addr) ≠ ⟨b, y, none⟩ := fun z e => h2 (by injection e with e1; exact e1.symm)
    rw [other _ _ _ _ (hb _), other _ _ _ _ (hb _), other _ _ _ _ (hb _), other _ _ _ _ (hb _)]
  · rw [other _ _ _ _ (hneq _ _ (by omega)), other _ _ _ _ (hneq _ _ (by omega)), other _ _ _ _ (hneq _ _ (by omega)), other _ _ _ _ (hneq _ _ (by omega))]
  · rw [other _ _ _ _ (hneq _ _ (by omega)), other _ _ _ _ (hneq _ _ (by omega)), other _ _ _ _ (hneq _ _ (by omega))]
    exact same _ _ _ u0 r0
  · rw [other _ _ _ _ (hneq _ _ (by omega)), other _ _ _ _ (hneq _ _ (by omega))]
    exact same _ _ _ u1 (by rw [other _ _ _ _ (hneq _ _ (by omega))]; exact r1)
  · rw [other _ _ _ _ (hneq _ _ (by omega))]
    exact same _ _ _ u2 (by rw [other _ _ _ _ (hneq _ _ (by omega)), other _ _ _ _ (hneq _ _ (by omega))]; exact r2)
  · exact same _ _ _ u3 (by rw [other _ _ _ _ (hneq _ _ (by omega)), other _ _ _ _ (hneq _ _ (by omega)), other _ _ _ _ (hneq _ _ (by omega))]; exact r3)
  · exact (((hB.setCell (p := ⟨R, x, none⟩) hR _).setCell (p := ⟨R, x + 1, none⟩) hR _).setCell (p := ⟨R, x + 2, none⟩) hR _).setCell (p := ⟨R, x + 3, none⟩) hR _

/-- two neighbours have changed places -/
theorem swap_step {R : Nat} {W w : World} {us : Ts} {j : Nat} {k : Int} {s : ByteArray} {n : Int} {p : Option Addr} {c : Nat} {ks : Ts} {k' : Int} {s' : ByteArray} {n' : Int} {p' : Option Addr} {c' : Nat} {ks' r : Ts}
    (h : OwnS R us W) (hd : us.drop j = .cons k s n p c ks (.cons k' s' n' p' c' ks' r)) (hB : Below R w W) :
    ∃ W', W' = ((((((((W.setCell ⟨R, (j + 1) * 4, none⟩ (.int .u8 k)).setCell ⟨R, (j + 1) * 4 + 1, none⟩ (.string s)).setCell ⟨R, (j + 1) * 4 + 2, none⟩ (.int .i64 n)).setCell ⟨R, (j + 1) * 4 + 3, none⟩ (.slice p ks.len c)).setCell ⟨R, j * 4, none⟩ (.int .u8 k')).setCell ⟨R, j * 4 + 1, none⟩ (.string s')).setCell ⟨R, j * 4 + 2, none⟩ (.int .i64 n')).setCell ⟨R, j * 4 + 3, none⟩ (.slice p' ks'.len c')) ∧
      OwnS R (us.swap j) W' ∧ Below R w W' := by
  obtain ⟨a0, a1, a2, a3, _, h2⟩ := h.row.get hd
  obtain ⟨b0, b1, b2, b3, _, _⟩ := h2
  simp only [Nat.zero_add] at a0 a1 a2 a3 b0 b1 b2 b3
  have e4 : (j + 1) * 4 = j * 4 + 4 := by omega
  rw [e4]
  obtain ⟨V, hV, sV, oV, rV, v0, v1, v2, v3, fV, bV⟩ := put4 W R (j * 4 + 4) (.int .u8 k) (.string s) (.int .i64 n) (.slice p ks.len c) (by rw [b0]; rfl) (by rw [b1]; rfl) (by rw [b2]; rfl) (by rw [b3]; rfl)
  obtain ⟨U, hU, sU, oU, rU, u0, u1, u2, u3, fU, bU⟩ := put4 V R (j * 4) (.int .u8 k') (.string s') (.int .i64 n') (.slice p' ks'.len c') (by rw [rV _ (by omega), a0]; rfl) (by rw [rV _ (by omega), a1]; rfl) (by rw [rV _ (by omega), a2]; rfl) (by rw [rV _ (by omega), a3]; rfl)
  refine ⟨U, by rw [hU, hV], ⟨by rw [sU, sV]; exact h.lt, fun x => by rw [fU, fV]; exact h.fr x, ?_, swap_ok j us h.ok⟩, bU _ _ (Nat.le_refl _) (bV _ _ (Nat.le_refl _) hB)⟩
  have z : ∀ y, 0 + j * 4 + y = j * 4 + y := fun y => by omega
  refine SRow.swap (w := W) (fun b y hb => (oU b y hb).trans (oV b y hb)) h.row hd ?_ ?_ ?_ ?_ ?_ ?_ ?_ ?_ (fun y hy => (rU y (by omega)).trans (rV y (by omega)))
  · rw [Nat.zero_add]; exact u0
  · rw [z]; exact u1
  · rw [z]; exact u2
  · rw [z]; exact u3
  · rw [z, rU _ (by omega)]; exact v0
  · rw [z, rU _ (by omega)]; exact v1
  · rw [z, rU _ (by omega)]; exact v2
  · rw [z, rU _ (by omega)]; exact v3

/-- is a place's term ahead of the one before it? -/
def ltAt (j : Nat) (us : Ts) : Bool := match us.drop j with
  | .cons k s n _ _ ks (.cons k' s' n' _ _ ks' _) => decide (cmpT k' k s' s n' n ks' ks (cmpL ks' ks) < 0)
  | _ => false

def insIn (a : Nat) : Nat → Ts → Ts
  | 0, ts => ts
  | j + 1, ts => if a < j + 1 ∧ ltAt j ts = true then insIn a j (ts.swap j) else ts

def insOut (a : Nat) : Nat → Nat → Ts → Ts
  | 0, _, ts => ts
  | m + 1, i, ts => insOut a m (i + 1) (insIn a i ts)

theorem insIn_stop {a j : Nat} {ts : Ts} (h : j ≤ a ∨ ∃ jp, j = jp + 1 ∧ ltAt jp ts = false) : insIn a j ts = ts := by
  cases j with
  | zero => rfl
  | succ j =>
    unfold insIn
    rw [if_neg]
    rintro ⟨h1, h2⟩
    rcases h with h | ⟨jp, h3, h4⟩
    · omega
    · obtain rfl : j = jp := by omega
      rw [h4] at h2
      cases h2

theorem insIn_go {a j : Nat} {ts : Ts} (h : a < j + 1) (h' : ltAt j ts = true) : insIn a (j + 1) ts = insIn a j (ts.swap j) := by
  rw [insIn, if_pos ⟨h, h'⟩]

theorem insOut_go {a b i : Nat} {ts : Ts} (h : i < b) : insOut a (b - i) i ts = insOut a (b - (i + 1)) (i + 1) (insIn a i ts) := by
  rw [show b - i = (b - (i + 1)) + 1 from by omega, insOut]

theorem insIn_len (a : Nat) : ∀ (j : Nat) (ts : Ts), (insIn a j ts).len = ts.len
  | 0, _ => rfl
  | j + 1, ts => by
    unfold insIn
    split
    · rw [insIn_len a j, swap_len]
    · rfl

theorem insOut_len (a : Nat) : ∀ (m i : Nat) (ts : Ts), (insOut a m i ts).len = ts.len
  | 0, _, _ => rfl
  | m + 1, i, ts => by rw [insOut, insOut_len a m, insIn_len]

end Go.Proofs.Ytlhclblekpngnaa
