/-
  The source of the draws: l01From, l01Next, l01Pick. No conditions. The source is made; what it draws. No conditions. What the source draws, handed on: numbers, picks out of lists. No conditions.
-/
import Derived.Test.YtabpgkkickdopaaMh
import Derived.Below
import Derived.Lib.SmallJoins
import Derived.RegionTactic
import Derived.ChangeAlike
import Derived.BigRegion
import Derived.LoopTactic
import Derived.OwnWalk
namespace Go.Proofs.Ytabpgkkickdopaa
set_option linter.unusedVariables false
open Go Go.RowKit

/-- The source at block b: its three cells, and the code's bytes, which it reads. B: the heap's size when the law began. -/
structure Src (B : Nat) (a : Option Addr) (len cap : Nat) (w : World) (b : Nat) : Prop where
  lo : B ≤ b
  hi : b < w.heap.size
  fit : len ≤ 9223372036854775807
  c0 : w.cell? ⟨b, 0, none⟩ = some (.slice a len cap)
  c1 : ∃ k : Nat, k ≤ len ∧ w.cell? ⟨b, 1, none⟩ = some (.int .i64 k)
  c2 : ∃ h : Int, w.cell? ⟨b, 2, none⟩ = some (.int .u64 h)
  fz : ∀ i, w.frozen? ⟨b, i, none⟩ = false
  code : ∀ i : Nat, i < len → ∃ c o, ∃ u : Nat, a = some ⟨c, o, none⟩ ∧ c < B ∧ u < 256 ∧ w.cell? ⟨c, o + i, none⟩ = some (.int .u8 u)

theorem ret_int {k : IntKind} {a b : Int} (h : a = b) : Ending.returned (.int k a) = .returned (.int k b) := by rw [h]

theorem mask24 (x : Nat) : ∃ v : Nat, v < 16777216 ∧ bits .and .u64 (x : Int) 16777215 = (v : Int) := by
  have h : (BitVec.ofInt 64 (x : Int) &&& BitVec.ofInt 64 16777215).toNat = x % 2 ^ 24 := by
    have e : BitVec.ofInt 64 16777215 = BitVec.ofNat 64 (2 ^ 24 - 1) := by decide
    rw [e, BitVec.toNat_and, BitVec.ofInt_natCast, BitVec.toNat_ofNat, BitVec.toNat_ofNat, Nat.mod_eq_of_lt (show 2 ^ 24 - 1 < 2 ^ 64 by decide), Nat.and_two_pow_sub_one_eq_mod]
    omega
  refine ⟨x % 2 ^ 24, by omega, ?_⟩
  show IntKind.u64.wrap ((BitVec.ofInt 64 (x : Int) &&& BitVec.ofInt 64 16777215).toNat : Int) = _
  rw [h, IntKind.wrap_u64]
  omega

theorem mask_of (h : Int) : ∃ v : Nat, v < 16777216 ∧ bits BinOp.and IntKind.u64 (IntKind.u64.wrap (IntKind.u64.wrap (h * 6364136223846793005) + 1442695040888963407) / 8589934592) 16777215 = (v : Int) := by
  have e : ∃ x : Nat, IntKind.u64.wrap (IntKind.u64.wrap (h * 6364136223846793005) + 1442695040888963407) / 8589934592 = (x : Int) := by
    refine ⟨(IntKind.u64.wrap (IntKind.u64.wrap (h * 6364136223846793005) + 1442695040888963407) / 8589934592).toNat, ?_⟩
    rw [IntKind.wrap_u64 (IntKind.u64.wrap _ + _)]
    omega
  obtain ⟨x, hx⟩ := e
  rw [hx]
  exact mask24 x

theorem Src.drewN {B : Nat} {a : Option Addr} {len cap : Nat} {w : World} {b : Nat} (h : Src B a len cap w b) (n : Nat) : Src B a len cap (w.drewN n) b :=
  ⟨h.lo, h.hi, h.fit, h.c0, h.c1, h.c2, h.fz, h.code⟩
theorem fz_set {w : World} {p : Addr} {v : Value} {q : Addr} (h : w.frozen? q = false) : (w.setCell p v).frozen? q = false := by
  rw [World.frozen?_setCell]; exact h
theorem Src.set2 {B : Nat} {a : Option Addr} {len cap : Nat} {w : World} {b : Nat} (h : Src B a len cap w b) (x : Int) : Src B a len cap (w.setCell ⟨b, 2, none⟩ (.int .u64 x)) b := by
  obtain ⟨h2, c2⟩ := h.c2
  refine ⟨h.lo, by rw [World.size_setCell]; exact h.hi, h.fit, ?_, ?_, ⟨x, World.cell?_setCell_same _ _ _ c2⟩, fun i => fz_set (h.fz i), fun i hi => ?_⟩
  · rw [World.cell?_setCell_other _ _ _ _ (by simp)]; exact h.c0
  · obtain ⟨k, hk, c1⟩ := h.c1
    exact ⟨k, hk, by rw [World.cell?_setCell_other _ _ _ _ (by simp)]; exact c1⟩
  · obtain ⟨c, o, u, ha, hc, hu, hcell⟩ := h.code i hi
    have := h.lo
    exact ⟨c, o, u, ha, hc, hu, by rw [World.cell?_setCell_other _ _ _ _ (by intro e; injection e; omega)]; exact hcell⟩
theorem Src.set1 {B : Nat} {a : Option Addr} {len cap : Nat} {w : World} {b : Nat} (h : Src B a len cap w b) (k' : Nat) (hk' : k' ≤ len) (x : Int) (hx : x = (k' : Int)) : Src B a len cap (w.setCell ⟨b, 1, none⟩ (.int .i64 x)) b := by
  subst hx
  obtain ⟨k, hk, c1⟩ := h.c1
  obtain ⟨h2, c2⟩ := h.c2
  refine ⟨h.lo, by rw [World.size_setCell]; exact h.hi, h.fit, ?_, ⟨k', hk', World.cell?_setCell_same _ _ _ c1⟩, ⟨h2, ?_⟩, fun i => fz_set (h.fz i), fun i hi => ?_⟩
  · rw [World.cell?_setCell_other _ _ _ _ (by simp)]; exact h.c0
  · rw [World.cell?_setCell_other _ _ _ _ (by simp)]; exact c2
  · obtain ⟨c, o, u, ha, hc, hu, hcell⟩ := h.code i hi
    have := h.lo
    exact ⟨c, o, u, ha, hc, hu, by rw [World.cell?_setCell_other _ _ _ _ (by intro e; injection e; omega)]; exact hcell⟩

/-- What a draw of the source leaves: no block but b was changed, and b is a source still. -/
structure Stay (B : Nat) (a : Option Addr) (len cap : Nat) (b : Nat) (w w' : World) : Prop where
  os : w'.os = w.os
  tape : w'.tape = w.tape
  output : w'.output = w.output
  size : w.heap.size ≤ w'.heap.size
  block : ∀ k, k < w.heap.size → k ≠ b → w'.heap[k]? = w.heap[k]?
  src : Src B a len cap w' b

section
variable {B : Nat} {a : Option Addr} {len cap b : Nat} {w w' w'' : World}
theorem Src.alloc (h : Src B a len cap w b) (o : Obj) (hB : B ≤ w.heap.size) : Src B a len cap (w.alloc o) b := by
  have hb := h.hi
  have cell : ∀ p : Addr, p.block < w.heap.size → (w.alloc o).cell? p = w.cell? p := fun p hp => World.cell?_alloc_lt _ _ _ hp
  refine ⟨h.lo, by rw [World.size_alloc]; omega, h.fit, by rw [cell _ hb]; exact h.c0, ?_, ?_, fun i => ?_, fun i hi => ?_⟩
  · obtain ⟨k, hk, c1⟩ := h.c1
    exact ⟨k, hk, by rw [cell _ hb]; exact c1⟩
  · obtain ⟨x, c2⟩ := h.c2
    exact ⟨x, by rw [cell _ hb]; exact c2⟩
  · have := h.fz i
    rw [World.frozen?_of_block (w := w) (Below.heap_alloc _ _ _ hb)]; exact this
  · obtain ⟨c, o', u, ha, hc, hu, hcell⟩ := h.code i hi
    exact ⟨c, o', u, ha, hc, hu, by rw [cell _ (by show c < _; omega)]; exact hcell⟩
theorem Stay.refl (h : Src B a len cap w b) : Stay B a len cap b w w := ⟨rfl, rfl, rfl, Nat.le_refl _, fun _ _ _ => rfl, h⟩
theorem Stay.trans (h : Stay B a len cap b w w') (g : Stay B a len cap b w' w'') : Stay B a len cap b w w'' :=
  ⟨g.os.trans h.os, g.tape.trans h.tape, g.output.trans h.output, Nat.le_trans h.size g.size, fun k hk hb => (g.block k (Nat.lt_of_lt_of_le hk h.size) hb).trans (h.block k hk hb), g.src⟩
theorem Stay.drewN (h : Stay B a len cap b w w') (n : Nat) : Stay B a len cap b w (w'.drewN n) := h.trans ⟨rfl, rfl, rfl, Nat.le_refl _, fun _ _ _ => rfl, h.src.drewN n⟩
theorem Stay.alloc (h : Stay B a len cap b w w') (hB : B ≤ w'.heap.size) (o : Obj) : Stay B a len cap b w (w'.alloc o) :=
  h.trans ⟨rfl, rfl, rfl, by simp, fun k hk _ => Below.heap_alloc _ _ _ hk, h.src.alloc o hB⟩
theorem Stay.set2 (h : Stay B a len cap b w w') (x : Int) : Stay B a len cap b w (w'.setCell ⟨b, 2, none⟩ (.int .u64 x)) :=
  h.trans ⟨rfl, rfl, rfl, by simp, fun k _ hb => Below.heap_setCell _ _ _ _ hb, h.src.set2 x⟩
theorem Stay.set1 (h : Stay B a len cap b w w') (k' : Nat) (hk' : k' ≤ len) (x : Int) (hx : x = (k' : Int)) : Stay B a len cap b w (w'.setCell ⟨b, 1, none⟩ (.int .i64 x)) :=
  h.trans ⟨rfl, rfl, rfl, by simp, fun k _ hb => Below.heap_setCell _ _ _ _ hb, h.src.set1 k' hk' x hx⟩
theorem Stay.below (h : Stay B a len cap b w w') (hB : B ≤ w.heap.size) : Below B w w' :=
  ⟨h.os, h.tape, h.output, h.size, fun k hk => h.block k (by omega) (by have := h.src.lo; omega)⟩
theorem Stay.cell (h : Stay B a len cap b w w') {p : Addr} (hp : p.block < w.heap.size) (hb : p.block ≠ b) : w'.cell? p = w.cell? p := World.cell?_of_block (w := w) (h.block p.block hp hb)
end

def Nxt (B : Nat) (a : Option Addr) (len cap : Nat) (b : Nat) (n : Int) (w : World) (e : Ending) (w' : World) : Prop :=
  ∃ v : Nat, (v : Int) < n ∧ e = .returned (.int .i64 (v : Int)) ∧ Stay B a len cap b w w'

set_option maxHeartbeats 400000 in
theorem next_any (B : Nat) (a : Option Addr) (len cap : Nat) (b : Nat) (n : Int) (w : World) (hs : Src B a len cap w b) (hn : 1 ≤ n) (hn' : n ≤ 9223372036854775807) :
    Calls Try.prog 41 #[.pointer (some ⟨b, 0, none⟩), .int .i64 n] w (Nxt B a len cap b n w) := by
  have HS := Lib.hid hs
  obtain ⟨lo, hi, fit, c0, ⟨k, hk, c1⟩, ⟨h, c2⟩, fz, code⟩ := hs
  have fz1 := fz 1
  have fz2 := fz 2
  have FZ := Lib.hid fz
  clear fz
  have CODE := Lib.hid code
  clear code
  obtain ⟨v, hv, hm⟩ := mask_of h
  have hd1 : decide (n < 1) = false := decide_eq_false (by omega)
  by_cases hkl : k < len
  · obtain ⟨c, o, u, ha, hcB, hu, hcell⟩ := CODE.out k hkl
    have hbc : ¬ b = c := by omega
    have hcb : ¬ c = b := by omega
    have hkI : (k : Int) < (len : Int) := by omega
    have hk0 : (0 : Int) ≤ (k : Int) := by omega
    subst ha
    go_enter Try.func41, Try.ntmps41
    go_wp2
    go_quiet (fail)
    go_wp2
    go_quiet (fail)
    go_wp2
    go_ret
    have e0 : 0 ≤ ((v : Int) + (u : Int)) % n := Int.emod_nonneg _ (by omega)
    have e1 : ((v : Int) + (u : Int)) % n < n := Int.emod_lt_of_pos _ (by omega)
    refine ⟨(((v : Int) + (u : Int)) % n).toNat, by omega, ret_int (Int.toNat_of_nonneg e0).symm, ?_⟩
    exact (((Stay.refl HS.out).set2 _).drewN _).set1 (k + 1) (by omega) _ (by omega)
  · obtain rfl : k = len := by omega
    go_enter Try.func41, Try.ntmps41
    go_wp2
    go_quiet (fail)
    go_wp2
    go_ret
    have e0 : 0 ≤ (v : Int) % n := Int.emod_nonneg _ (by omega)
    have e1 : (v : Int) % n < n := Int.emod_lt_of_pos _ (by omega)
    refine ⟨((v : Int) % n).toNat, by omega, ret_int (Int.toNat_of_nonneg e0).symm, ?_⟩
    exact ((Stay.refl HS.out).set2 _).drewN _

def SomeI (B : Nat) (a : Option Addr) (len cap : Nat) (b : Nat) (w : World) (e : Ending) (w' : World) : Prop :=
  ∃ x : Int, -9223372036854775808 ≤ x ∧ x ≤ 9223372036854775807 ∧ e = .returned (.int .i64 x) ∧ Stay B a len cap b w w'

def SomeP (p : Int → Prop) (B : Nat) (a : Option Addr) (len cap : Nat) (b : Nat) (w : World) (e : Ending) (w' : World) : Prop :=
  ∃ x : Int, p x ∧ e = .returned (.int .i64 x) ∧ Stay B a len cap b w w'
set_option maxHeartbeats 400000 in
theorem pickP_any (p : Int → Prop) (B : Nat) (a : Option Addr) (len cap b : Nat) (c m mcap : Nat) (w : World) (hs : Src B a len cap w b) (hm : 1 ≤ m) (hm' : m ≤ 1000) (hc : c < w.heap.size) (hcb : c ≠ b)
    (hl : ∀ i : Nat, i < m → ∃ x : Int, p x ∧ w.cell? ⟨c, i, none⟩ = some (.int .i64 x)) :
    Calls Try.prog 74 #[.pointer (some ⟨b, 0, none⟩), .slice (some ⟨c, 0, none⟩) m mcap] w (SomeP p B a len cap b w) := by
  have HL := Lib.hid hl
  clear hl
  go_enter Try.func74, Try.ntmps74
  go_wp2_with fail
  refine (next_any B a len cap b _ _ hs (by omega) (by omega)).mono ?_
  rintro e w' ⟨v, hv, rfl, hst⟩
  have hv' : v < m := by omega
  obtain ⟨x, hx1, hx⟩ := HL.out v hv'
  rw [← hst.cell (p := ⟨c, v, none⟩) hc hcb] at hx
  have HX := Lib.hid hx1
  clear hx1
  go_wp2
  go_ret
  exact ⟨x, HX.out, rfl, hst⟩
theorem pick_any (B : Nat) (a : Option Addr) (len cap b : Nat) (c m mcap : Nat) (w : World) (hs : Src B a len cap w b) (hm : 1 ≤ m) (hm' : m ≤ 1000) (hc : c < w.heap.size) (hcb : c ≠ b)
    (hl : ∀ i : Nat, i < m → ∃ x : Int, -9223372036854775808 ≤ x ∧ x ≤ 9223372036854775807 ∧ w.cell? ⟨c, i, none⟩ = some (.int .i64 x)) :
    Calls Try.prog 74 #[.pointer (some ⟨b, 0, none⟩), .slice (some ⟨c, 0, none⟩) m mcap] w (SomeI B a len cap b w) :=
  (pickP_any (fun x => -9223372036854775808 ≤ x ∧ x ≤ 9223372036854775807) B a len cap b c m mcap w hs hm hm' hc hcb (fun i hi => by obtain ⟨x, h1, h2, h3⟩ := hl i hi; exact ⟨x, ⟨h1, h2⟩, h3⟩)).mono fun _ _ ⟨x, ⟨h1, h2⟩, he, hst⟩ => ⟨x, h1, h2, he, hst⟩

/-- A code that came in: its bytes can be read. -/
def Code8 (B : Nat) (a : Option Addr) (len : Nat) (w : World) : Prop :=
  ∀ i : Nat, i < len → ∃ c o, ∃ u : Nat, a = some ⟨c, o, none⟩ ∧ c < B ∧ u < 256 ∧ w.cell? ⟨c, o + i, none⟩ = some (.int .u8 u)

def MadeSrc (B : Nat) (a : Option Addr) (len cap : Nat) (w : World) (e : Ending) (w' : World) : Prop :=
  ∃ b : Nat, e = .returned (.pointer (some ⟨b, 0, none⟩)) ∧ Below B w w' ∧ Src B a len cap w' b

set_option maxRecDepth 100000 in
set_option maxHeartbeats 400000 in
theorem from_any (a : Option Addr) (len cap : Nat) (w : World) (hlen : len ≤ 9223372036854775807) (hcode : Code8 w.heap.size a len w) :
    Calls Try.prog 39 #[.slice a len cap] w (MadeSrc w.heap.size a len cap w) := by
  have HC := Lib.hid hcode
  clear hcode
  go_enter Try.func39, Try.ntmps39
  go_wp2
  have h0 : Src w.heap.size a len cap (w.alloc (.cells #[.slice a len cap, .int .i64 0, .int .u64 (6737 + (len : Int))] 95)) w.heap.size := by
    refine ⟨Nat.le_refl _, by simp, hlen, by simp, ⟨0, Nat.zero_le _, by simp⟩, ⟨6737 + (len : Int), by simp⟩, fun i => by simp, fun i hi => ?_⟩
    obtain ⟨c, o, u, ha, hc, hu, hcell⟩ := HC.out i hi
    exact ⟨c, o, u, ha, hc, hu, by rw [World.cell?_alloc_lt _ _ _ hc]; exact hcell⟩
  have H0 := Lib.hid h0
  clear h0
  obtain ⟨w0, hw0⟩ : ∃ w0, w0 = w.alloc (.cells #[.slice a len cap, .int .i64 0, .int .u64 (6737 + (len : Int))] 95) := ⟨_, rfl⟩
  rw [← hw0] at H0 ⊢
  have HW := Lib.hid hw0
  clear hw0
  have HEND : ∀ wr, Stay w.heap.size a len cap w.heap.size w0 wr → MadeSrc w.heap.size a len cap w (.returned (.pointer (some ⟨w.heap.size, 0, none⟩))) wr := fun wr hst =>
    ⟨w.heap.size, rfl, (by rw [HW.out] at hst; exact ((Below.refl _ w).alloc (Nat.le_refl _) _).trans (hst.below (by simp))), hst.src⟩
  go_loopw [4] (fun i wr => ∃ k : Nat, k ≤ len ∧ k ≤ 4096 ∧ i = .int .i64 k ∧ Stay w.heap.size a len cap w.heap.size w0 wr) (fun i _ => 4096 - (intOf i).toNat)
  case atStart => exact ⟨0, Nat.zero_le _, Nat.zero_le _, rfl, Stay.refl H0.out⟩
  case round =>
    obtain ⟨k, hk, hk', rfl, hst⟩ := hrel
    have HST := Lib.hid hst
    obtain ⟨lo, hi, fit, c0, ⟨k1, hk1, c1⟩, ⟨x2, c2⟩, fz, code⟩ := hst.src
    clear hst c1
    have fz2 := fz 2
    have CODE := Lib.hid code
    clear fz code
    by_cases hkl : k < len
    · by_cases hk6 : k < 4096
      · obtain ⟨c, o, u, ha, hcB, hu, hcell⟩ := CODE.out k hkl
        have hbc : ¬ w.heap.size = c := by omega
        have hcb : ¬ c = w.heap.size := by omega
        have hkI : (k : Int) < (len : Int) := by omega
        have hk0 : (0 : Int) ≤ (k : Int) := by omega
        subst ha
        have hd6 : decide ((k : Int) < 4096) = true := decide_eq_true (by omega)
        go_wp2
        go_region
        all_goals
          go_wp2
          go_roundw
          case rel => exact ⟨k + 1, by omega, by omega, by go_num, (HST.out.set2 _).drewN 1⟩
          case measure => simp [intOf]; omega
      · obtain rfl : k = 4096 := by omega
        go_wp2
        go_ret
        exact HEND _ HST.out
    · obtain rfl : k = len := by omega
      go_wp2
      go_ret
      exact HEND _ HST.out

section
variable {B : Nat} {a : Option Addr} {len cap b : Nat} {w W : World}
theorem Stay.alloc' (h : Stay B a len cap b w W) (o : Obj) : Stay B a len cap b w (W.alloc o) := h.alloc (by have := h.src.lo; have := h.src.hi; omega) o
theorem next_from (h : Stay B a len cap b w W) (n : Int) (hn : 1 ≤ n) (hn' : n ≤ 9223372036854775807) : Calls Try.prog 41 #[.pointer (some ⟨b, 0, none⟩), .int .i64 n] W (Nxt B a len cap b n w) :=
  (next_any B a len cap b n W h.src hn hn').mono fun _ _ ⟨v, hv, he, hst⟩ => ⟨v, hv, he, h.trans hst⟩
theorem SomeI.from {e : Ending} {w' : World} (h : Stay B a len cap b w W) (g : SomeI B a len cap b W e w') : SomeI B a len cap b w e w' := by
  obtain ⟨x, h1, h2, he, hst⟩ := g
  exact ⟨x, h1, h2, he, h.trans hst⟩

def InI64 (x : Int) : Prop := -9223372036854775808 ≤ x ∧ x ≤ 9223372036854775807
/-- A pick out of a list that was just made. -/
theorem pick_from (h : Stay B a len cap b w W) (xs : List Int) (t : TypeId) (m : Nat) (hm : m = xs.length) (hm1 : 1 ≤ m) (hm2 : m ≤ 1000) (hx : ∀ x ∈ xs, InI64 x) (V : World) (hV : V = W.alloc (.cells (xs.map (Value.int .i64)).toArray t)) :
    Calls Try.prog 74 #[.pointer (some ⟨b, 0, none⟩), .slice (some ⟨W.heap.size, 0, none⟩) m m] V (SomeI B a len cap b w) := by
  subst hm hV
  have h2 := h.alloc' (.cells (xs.map (Value.int .i64)).toArray t)
  have hb := h.src.hi
  refine (pick_any B a len cap b W.heap.size xs.length xs.length _ h2.src hm1 hm2 (by simp) (by omega) fun i hi => ?_).mono fun _ _ g => SomeI.from h2 g
  obtain ⟨h3, h4⟩ := hx xs[i] (List.getElem_mem _)
  exact ⟨xs[i], h3, h4, by simp [List.getElem?_eq_getElem hi]⟩
end

def AnyI (B : Nat) (a : Option Addr) (len cap : Nat) (b : Nat) (w : World) (e : Ending) (w' : World) : Prop :=
  ∃ x : Int, e = .returned (.int .i64 x) ∧ Stay B a len cap b w w'
section
variable {B : Nat} {a : Option Addr} {len cap b : Nat} {w W : World}
theorem pick_some (h : Stay B a len cap b w W) (xs : List Int) (t : TypeId) (m : Nat) (hm : m = xs.length) (hm1 : 1 ≤ m) (hm2 : m ≤ 1000) (hx : ∀ x ∈ xs, InI64 x) (V : World) (hV : V = W.alloc (.cells (xs.map (Value.int .i64)).toArray t)) :
    Calls Try.prog 74 #[.pointer (some ⟨b, 0, none⟩), .slice (some ⟨W.heap.size, 0, none⟩) m m] V (AnyI B a len cap b w) :=
  (pick_from h xs t m hm hm1 hm2 hx V hV).mono fun _ _ ⟨x, _, _, he, hst⟩ => ⟨x, he, hst⟩
end
end Go.Proofs.Ytabpgkkickdopaa
