/-
  What the model's ReadKnot answers: the right knot whose text it is, and true; the zero knot and false where there is none; for texts of at most 2 to the 30 bytes.
-/
import Derived.Test.YtiopckkcdmeagaaGreatDoorKnotQ
import Derived.Test.YtiopckkcdmeagaaGreatDoorCur
import Derived.Deep.RegionWith
namespace Go.Proofs.YtiopckkcdmeagaaGreatDoor
open Go.RowKit
set_option maxRecDepth 100000
namespace Kn

def zeroK : K := ⟨0, 0, 0, ⟨#[]⟩⟩
/-- what a reading of a knot promises -/
def ReadsK (s : ByteArray) (k : K) (b : Bool) : Prop := (b = true ∧ okK k = true ∧ showK k = s.data.toList) ∨ (b = false ∧ k = zeroK ∧ ∀ k', okK k' = true → showK k' ≠ s.data.toList)

def ReadPostK (s : ByteArray) (w : World) (e : Ending) (w' : World) : Prop := ∃ k b, e = .returned (.tuple #[.agg #[.int .i64 k.hand, .int .i64 k.round, .int .i64 k.frm, .string k.word], .bool b]) ∧ ReadsK s k b ∧ Below w.heap.size w w'

theorem l1Split32 (s : ByteArray) (w : World) (hs : s.size ≤ 1099511627776) : Calls Tryz.prog 23 #[.string s, .int .u8 32] w fun e w' =>
    ∃ ao cap, e = .returned (.slice ao (split 32 s.data.toList).length cap) ∧ OwnS w.heap.size w' ao cap (split 32 s.data.toList) ∧ Below w.heap.size w w' := l1Split s 32 w hs

theorem split_pos (c : UInt8) (cur l : List UInt8) : 0 < (splitGo c cur l).length := by
  induction l generalizing cur with
  | nil => simp [splitGo]
  | cons x l ih => rw [splitGo]; split <;> simp [ih]

/-- the result's block and the knot's, behind one another -/
structure Two (b : Nat) (w : World) (h r f : Int) (wd : ByteArray) : Prop where
  lt : b + 1 < w.heap.size
  r0 : w.cell? ⟨b, 0, none⟩ = some (.int .i64 0)
  r1 : w.cell? ⟨b, 1, none⟩ = some (.int .i64 0)
  r2 : w.cell? ⟨b, 2, none⟩ = some (.int .i64 0)
  r3 : w.cell? ⟨b, 3, none⟩ = some (.string ⟨#[]⟩)
  rf : ∀ j, w.frozen? ⟨b, j, none⟩ = false
  k0 : w.cell? ⟨b + 1, 0, none⟩ = some (.int .i64 h)
  k1 : w.cell? ⟨b + 1, 1, none⟩ = some (.int .i64 r)
  k2 : w.cell? ⟨b + 1, 2, none⟩ = some (.int .i64 f)
  k3 : w.cell? ⟨b + 1, 3, none⟩ = some (.string wd)
  kf : ∀ j, w.frozen? ⟨b + 1, j, none⟩ = false

theorem Two.below {b : Nat} {w w' : World} {h r f : Int} {wd : ByteArray} (t : Two b w h r f wd) (hb : Below w.heap.size w w') : Two b w' h r f wd where
  lt := Nat.lt_of_lt_of_le t.lt hb.size
  r0 := (hb.cell (p := ⟨b, 0, none⟩) (Nat.lt_of_succ_lt t.lt)).trans t.r0
  r1 := (hb.cell (p := ⟨b, 1, none⟩) (Nat.lt_of_succ_lt t.lt)).trans t.r1
  r2 := (hb.cell (p := ⟨b, 2, none⟩) (Nat.lt_of_succ_lt t.lt)).trans t.r2
  r3 := (hb.cell (p := ⟨b, 3, none⟩) (Nat.lt_of_succ_lt t.lt)).trans t.r3
  rf := fun j => (hb.frozen (p := ⟨b, j, none⟩) (Nat.lt_of_succ_lt t.lt)).trans (t.rf j)
  k0 := (hb.cell (p := ⟨b + 1, 0, none⟩) t.lt).trans t.k0
  k1 := (hb.cell (p := ⟨b + 1, 1, none⟩) t.lt).trans t.k1
  k2 := (hb.cell (p := ⟨b + 1, 2, none⟩) t.lt).trans t.k2
  k3 := (hb.cell (p := ⟨b + 1, 3, none⟩) t.lt).trans t.k3
  kf := fun j => (hb.frozen (p := ⟨b + 1, j, none⟩) t.lt).trans (t.kf j)

theorem two_new (w : World) : Two w.heap.size ((w.alloc (.cells #[.int .i64 0, .int .i64 0, .int .i64 0, .string ⟨#[]⟩] 25)).alloc (.cells #[.int .i64 0, .int .i64 0, .int .i64 0, .string ⟨#[]⟩] 25)) 0 0 0 ⟨#[]⟩ where
  lt := by simp
  r0 := by simp
  r1 := by simp
  r2 := by simp
  r3 := by simp
  rf := fun j => by simp
  k0 := by simp [go_sem]
  k1 := by simp [go_sem]
  k2 := by simp [go_sem]
  k3 := by simp [go_sem]
  kf := fun j => by simp [go_sem]

theorem Two.set0 {b : Nat} {w : World} {h r f : Int} {wd : ByteArray} (t : Two b w h r f wd) (x : Int) : Two b (w.setCell ⟨b + 1, 0, none⟩ (.int .i64 x)) x r f wd where
  lt := by simpa using t.lt
  r0 := (World.cell?_setCell_other _ _ _ _ (by simp)).trans t.r0
  r1 := (World.cell?_setCell_other _ _ _ _ (by simp)).trans t.r1
  r2 := (World.cell?_setCell_other _ _ _ _ (by simp)).trans t.r2
  r3 := (World.cell?_setCell_other _ _ _ _ (by simp)).trans t.r3
  rf := fun j => by simpa using t.rf j
  k0 := World.cell?_setCell_same _ _ _ t.k0
  k1 := (World.cell?_setCell_other _ _ _ _ (by simp)).trans t.k1
  k2 := (World.cell?_setCell_other _ _ _ _ (by simp)).trans t.k2
  k3 := (World.cell?_setCell_other _ _ _ _ (by simp)).trans t.k3
  kf := fun j => by simpa using t.kf j
theorem Two.set1 {b : Nat} {w : World} {h r f : Int} {wd : ByteArray} (t : Two b w h r f wd) (x : Int) : Two b (w.setCell ⟨b + 1, 1, none⟩ (.int .i64 x)) h x f wd where
  lt := by simpa using t.lt
  r0 := (World.cell?_setCell_other _ _ _ _ (by simp)).trans t.r0
  r1 := (World.cell?_setCell_other _ _ _ _ (by simp)).trans t.r1
  r2 := (World.cell?_setCell_other _ _ _ _ (by simp)).trans t.r2
  r3 := (World.cell?_setCell_other _ _ _ _ (by simp)).trans t.r3
  rf := fun j => by simpa using t.rf j
  k0 := (World.cell?_setCell_other _ _ _ _ (by simp)).trans t.k0
  k1 := World.cell?_setCell_same _ _ _ t.k1
  k2 := (World.cell?_setCell_other _ _ _ _ (by simp)).trans t.k2
  k3 := (World.cell?_setCell_other _ _ _ _ (by simp)).trans t.k3
  kf := fun j => by simpa using t.kf j
theorem Two.set2 {b : Nat} {w : World} {h r f : Int} {wd : ByteArray} (t : Two b w h r f wd) (x : Int) : Two b (w.setCell ⟨b + 1, 2, none⟩ (.int .i64 x)) h r x wd where
  lt := by simpa using t.lt
  r0 := (World.cell?_setCell_other _ _ _ _ (by simp)).trans t.r0
  r1 := (World.cell?_setCell_other _ _ _ _ (by simp)).trans t.r1
  r2 := (World.cell?_setCell_other _ _ _ _ (by simp)).trans t.r2
  r3 := (World.cell?_setCell_other _ _ _ _ (by simp)).trans t.r3
  rf := fun j => by simpa using t.rf j
  k0 := (World.cell?_setCell_other _ _ _ _ (by simp)).trans t.k0
  k1 := (World.cell?_setCell_other _ _ _ _ (by simp)).trans t.k1
  k2 := World.cell?_setCell_same _ _ _ t.k2
  k3 := (World.cell?_setCell_other _ _ _ _ (by simp)).trans t.k3
  kf := fun j => by simpa using t.kf j
theorem Two.set3 {b : Nat} {w : World} {h r f : Int} {wd : ByteArray} (t : Two b w h r f wd) (x : ByteArray) : Two b (w.setCell ⟨b + 1, 3, none⟩ (.string x)) h r f x where
  lt := by simpa using t.lt
  r0 := (World.cell?_setCell_other _ _ _ _ (by simp)).trans t.r0
  r1 := (World.cell?_setCell_other _ _ _ _ (by simp)).trans t.r1
  r2 := (World.cell?_setCell_other _ _ _ _ (by simp)).trans t.r2
  r3 := (World.cell?_setCell_other _ _ _ _ (by simp)).trans t.r3
  rf := fun j => by simpa using t.rf j
  k0 := (World.cell?_setCell_other _ _ _ _ (by simp)).trans t.k0
  k1 := (World.cell?_setCell_other _ _ _ _ (by simp)).trans t.k1
  k2 := (World.cell?_setCell_other _ _ _ _ (by simp)).trans t.k2
  k3 := World.cell?_setCell_same _ _ _ t.k3
  kf := fun j => by simpa using t.kf j
theorem Two.drewN {b : Nat} {w : World} {h r f : Int} {wd : ByteArray} (t : Two b w h r f wd) (n : Nat) : Two b (w.drewN n) h r f wd := ⟨t.lt, t.r0, t.r1, t.r2, t.r3, t.rf, t.k0, t.k1, t.k2, t.k3, t.kf⟩

theorem cut_of (s : ByteArray) (c : Nat) (hc : c ≤ s.size) (h1 : ∀ j, (hj : j < c) → (s[j]'(Nat.lt_of_lt_of_le hj hc)).toNat ≠ 58) (h2 : (h : c < s.size) → s[c].toNat = 58) : IsCut s.data.toList c := by
  refine ⟨by simpa using hc, ?_, ?_⟩
  · intro hm
    obtain ⟨j, hj, he⟩ := List.getElem_of_mem hm
    have hj' : j < c := by simp at hj; omega
    apply h1 j hj'
    rw [List.getElem_take] at he
    have e : s[j]'(Nat.lt_of_lt_of_le hj' hc) = s.data.toList[j]'(by simp; omega) := rfl
    rw [e, he]; rfl
  · intro hl
    have hl' : c < s.size := by simpa using hl
    rw [List.getElem?_eq_getElem hl]
    have e : s.data.toList[c] = s[c] := rfl
    rw [e]
    congr 1
    apply UInt8.toNat_inj.1
    rw [h2 hl']; rfl

theorem piece_len (c : UInt8) (cur l : List UInt8) : ∀ x ∈ splitGo c cur l, x.length ≤ cur.length + l.length := by
  induction l generalizing cur with
  | nil => intro x hx; simp [splitGo] at hx; subst hx; simp
  | cons y l ih =>
    intro x hx
    rw [splitGo] at hx
    split at hx
    · rcases List.mem_cons.1 hx with rfl | h
      · simp
      · have := ih [] x h; simp at this ⊢; omega
    · have := ih (cur ++ [y]) x hx
      simp at this ⊢; omega

theorem split_len (c : UInt8) (cur l : List UInt8) : (splitGo c cur l).length ≤ l.length + 1 := by
  induction l generalizing cur with
  | nil => simp [splitGo]
  | cons y l ih =>
    rw [splitGo]
    split
    · have := ih []; simp; omega
    · have := ih (cur ++ [y]); simp; omega

theorem extract0 (s : ByteArray) (c : Nat) (hc : c ≤ s.size) : (s.extract 0 c).data.toList = s.data.toList.take c := by
  have h := sub_extract s 0 c (by omega) hc
  have := B_of _ _ h
  rw [this]; simp [sub]
theorem extract0_size (s : ByteArray) (c : Nat) (hc : c ≤ s.size) : (s.extract 0 c).size = c := by
  simp [Nat.min_eq_left hc]

theorem ownS_cell {base : Nat} {w : World} {ao : Option Addr} {cap : Nat} {L : List (List UInt8)} (h : OwnS base w ao cap L) (j : Nat) (hj : j < L.length) : ∃ g, ao = some ⟨g, 0, none⟩ ∧ base ≤ g ∧ w.cell? ⟨g, j, none⟩ = some (.string (B L[j])) := by
  have hc := h
  obtain ⟨_, ⟨_, hn⟩ | ⟨g, cap', cur, hv, hB, _⟩⟩ := h
  · omega
  · simp only [Value.slice.injEq] at hv
    obtain ⟨rfl, _, rfl⟩ := hv
    refine ⟨g, rfl, hB, ?_⟩
    have := World.ownsRow.cellAt hc j (by omega)
    rw [this]; simp [hj, S]
theorem ownS_grown {base c : Nat} {w w' : World} {ao : Option Addr} {cap : Nat} {l : List (List UInt8)} (h : OwnS base w ao cap l) (hg : w.grownBy w' (some c)) (hc : c < base) : OwnS base w' ao cap l := by
  unfold OwnS at *
  refine World.ownsRow.kept h hg ?_
  by_cases hb : (Value.slice ao l.length cap).ownBlock = none
  · exact .inl hb
  · refine .inr (fun e => ?_)
    have := (World.ownsRow.lt h c e).1
    omega

theorem put4 {w : World} {b : Nat} (r0 : w.cell? ⟨b, 0, none⟩ = some (.int .i64 0)) (r1 : w.cell? ⟨b, 1, none⟩ = some (.int .i64 0)) (r2 : w.cell? ⟨b, 2, none⟩ = some (.int .i64 0)) (r3 : w.cell? ⟨b, 3, none⟩ = some (.string ⟨#[]⟩)) (v0 v1 v2 v3 : Value) :
    ((((w.setCell ⟨b, 0, none⟩ v0).setCell ⟨b, 1, none⟩ v1).setCell ⟨b, 2, none⟩ v2).setCell ⟨b, 3, none⟩ v3).cell? ⟨b, 0, none⟩ = some v0 ∧
    ((((w.setCell ⟨b, 0, none⟩ v0).setCell ⟨b, 1, none⟩ v1).setCell ⟨b, 2, none⟩ v2).setCell ⟨b, 3, none⟩ v3).cell? ⟨b, 1, none⟩ = some v1 ∧
    ((((w.setCell ⟨b, 0, none⟩ v0).setCell ⟨b, 1, none⟩ v1).setCell ⟨b, 2, none⟩ v2).setCell ⟨b, 3, none⟩ v3).cell? ⟨b, 2, none⟩ = some v2 ∧
    ((((w.setCell ⟨b, 0, none⟩ v0).setCell ⟨b, 1, none⟩ v1).setCell ⟨b, 2, none⟩ v2).setCell ⟨b, 3, none⟩ v3).cell? ⟨b, 3, none⟩ = some v3 := by
  refine ⟨?_, ?_, ?_, ?_⟩
  · rw [World.cell?_setCell_other _ _ _ _ (by simp), World.cell?_setCell_other _ _ _ _ (by simp), World.cell?_setCell_other _ _ _ _ (by simp)]
    exact World.cell?_setCell_same _ _ _ r0
  · rw [World.cell?_setCell_other _ _ _ _ (by simp), World.cell?_setCell_other _ _ _ _ (by simp)]
    exact World.cell?_setCell_same _ _ _ ((World.cell?_setCell_other _ _ _ _ (by simp)).trans r1)
  · rw [World.cell?_setCell_other _ _ _ _ (by simp)]
    exact World.cell?_setCell_same _ _ _ ((World.cell?_setCell_other _ _ _ _ (by simp)).trans ((World.cell?_setCell_other _ _ _ _ (by simp)).trans r2))
  · exact World.cell?_setCell_same _ _ _ ((World.cell?_setCell_other _ _ _ _ (by simp)).trans ((World.cell?_setCell_other _ _ _ _ (by simp)).trans ((World.cell?_setCell_other _ _ _ _ (by simp)).trans r3)))

theorem postK_mk {s : ByteArray} {w w' : World} (k : K) (b : Bool) (h : ReadsK s k b) (hb : Below w.heap.size w w') : ReadPostK s w (.returned (.tuple #[.agg #[.int .i64 k.hand, .int .i64 k.round, .int .i64 k.frm, .string k.word], .bool b])) w' := ⟨k, b, rfl, h, hb⟩

set_option maxHeartbeats 6400000 in
theorem specReadKnot (s : ByteArray) (w : World) (hs : s.size ≤ 1073741824) : Calls Tryz.prog 9 #[.string s] w (ReadPostK s w) := by
  have HT : Hid (Two w.heap.size _ 0 0 0 ⟨#[]⟩) := two_new w
  have HB : Hid (Below w.heap.size w ((w.alloc (.cells #[.int .i64 0, .int .i64 0, .int .i64 0, .string ⟨#[]⟩] 25)).alloc (.cells #[.int .i64 0, .int .i64 0, .int .i64 0, .string ⟨#[]⟩] 25))) := ((Below.refl _ w).alloc (Nat.le_refl _) _).alloc (by simp) _
  go_enter Tryz.func9, Tryz.ntmps9
  go_wp2
  generalize (w.alloc (.cells #[.int .i64 0, .int .i64 0, .int .i64 0, .string ⟨#[]⟩] 25)).alloc (.cells #[.int .i64 0, .int .i64 0, .int .i64 0, .string ⟨#[]⟩] 25) = w0 at HT HB ⊢
  go_loop [5] (fun i => ∃ c : Nat, i = .int .i64 c ∧ ∃ hc : c ≤ s.size, Hid (∀ j, (hj : j < c) → (s[j]'(Nat.lt_of_lt_of_le hj hc)).toNat ≠ 58)) (fun i => s.size - (intOf i).toNat)
  case atStart => exact ⟨0, rfl, by omega, fun j hj => by omega⟩
  case round =>
    obtain ⟨c, rfl, hc, HC⟩ := hrel
    by_cases hgo : ∃ h : c < s.size, s[c].toNat ≠ 58
    · obtain ⟨hlt, h58⟩ := hgo
      have h58' : ((s[c].toNat : Int) != 58) = true := by rw [bne_iff_ne]; intro h; exact h58 (by omega)
      have HC' : Hid (∀ j, (hj : j < c + 1) → (s[j]'(by omega)).toNat ≠ 58) := by
        intro j hj
        by_cases e : j = c
        · subst e; exact h58
        · exact HC.out j (by omega)
      clear h58
      go_wp2
      go_round
      case rel => exact ⟨c + 1, by go_num, by omega, HC'⟩
      case measure => simp [intOf]; omega
    · have h58 : ∀ h : c < s.size, s[c].toNat = 58 := fun h => Classical.byContradiction fun h2 => hgo ⟨h, h2⟩
      have HI : Hid (IsCut s.data.toList c) := cut_of s c hc HC.out h58
      have HX : Hid ((s.extract 0 c).data.toList = s.data.toList.take c) := extract0 s c hc
      have hxs : (s.extract 0 c).size ≤ 1099511627776 := by rw [extract0_size s c hc]; omega
      clear HC hgo
      by_cases hlt : c < s.size
      case' pos => have h58' : ((s[c].toNat : Int) != 58) = false := by (rw [bne_eq_false_iff_eq, h58 hlt]; rfl)
      all_goals clear h58
      all_goals
        go_wp2_with fail
        refine (l1Split32 _ _ hxs).mono ?_
        rintro e w1 ⟨ao, ca, rfl, hown, hb1⟩
        rw [HX.out] at hown ⊢
        have T1 := HT.out.below hb1
        have B1 := HB.out.trans (hb1.mono (Nat.le_of_lt (Nat.lt_of_succ_lt HT.out.lt)))
        have lt0 : w.heap.size + 1 < w0.heap.size := HT.out.lt
        clear HT HB hb1 HX hxs
        obtain ⟨n, hn⟩ : ∃ n, n + 1 = (split 32 (s.data.toList.take c)).length := ⟨(split 32 (s.data.toList.take c)).length - 1, by have := split_pos 32 [] (s.data.toList.take c); unfold split; omega⟩
        have hnl : n ≤ 1073741824 := by
          have h1 := split_len 32 [] (s.data.toList.take c)
          have h2 : (s.data.toList.take c).length ≤ c := List.length_take_le _ _
          unfold split at hn
          omega
        have HN : Hid (n + 1 = (split 32 (s.data.toList.take c)).length) := hn
        rw [← hn]
        clear hn
        have hn1 : ((n + 1 : Nat) : Int) - 1 = (n : Int) := by omega
        go_wp2_with fail
        go_loopw [7] (fun i wr => ∃ (j : Nat) (h r f : Int), i = .int .i64 j ∧ j ≤ n ∧ Hid (Part s.data.toList j h r f) ∧ Hid (-1000000000 < h ∧ h < 1000000000 ∧ -1000000000 < r ∧ r < 1000000000 ∧ 0 ≤ f ∧ f < 1152921504606846976) ∧ Two w.heap.size wr h r f ⟨#[]⟩ ∧ w1.grownBy wr (some (w.heap.size + 1))) (fun i _ => n - (intOf i).toNat)
        case atStart => exact ⟨0, 0, 0, 0, rfl, by omega, part_zero' _, by show _ ∧ _; omega, T1, World.grownBy.refl _ _⟩
        case round =>
          obtain ⟨j, h, r, f, rfl, hj, HP, HR, T, G⟩ := hrel
          by_cases hjn : j < n
          · have hjl : j < (split 32 (s.data.toList.take c)).length := by rw [← HN.out]; omega
            obtain ⟨g, rfl, hg, hcell⟩ := ownS_cell (ownS_grown hown G lt0) j hjl
            have hx : Hid ((split 32 (s.data.toList.take c))[j]? = some ((split 32 (s.data.toList.take c))[j])) := List.getElem?_eq_getElem hjl
            have hxl : ((split 32 (s.data.toList.take c))[j]).length ≤ 1073741824 := by
              have h1 := piece_len 32 [] (s.data.toList.take c) _ (List.getElem_mem (l := split 32 (s.data.toList.take c)) hjl)
              have h2 : (s.data.toList.take c).length ≤ c := List.length_take_le _ _
              simp only [List.length_nil] at h1
              omega
            generalize (split 32 (s.data.toList.take c))[j] = x at hx hxl hcell
            have hxs : (B x).size ≤ 1099511627776 := by rw [B_size]; omega
            have hj1 : Hid (j + 1 < (split 32 (s.data.toList.take c)).length) := by show _ < _; rw [← HN.out]; omega
            have hjn' : (j : Int) < (n : Int) := by omega
            go_wp2_with fail
            refine (l1Read (B x) _ hxs).mono ?_
            rintro e w2 ⟨v, bb, rfl, hR, rfl⟩
            have HV : Hid (∀ m : Nat, m < 1000000000 → x = dec m → v = (m : Int) ∧ bb = true) := fun m hm e => hR.2.2 m hm (by rw [e])
            have hv0 := hR.1
            have hv1 := hR.2.1
            clear hR
            cases bb
            · have HBad : Hid (∀ k, okK k = true → showK k ≠ s.data.toList) := bad_word HI.out hj1.out hx.out (fun m hm e => Bool.noConfusion (HV.out m (by omega) e).2)
              have BE : Hid (Below w.heap.size w wr) := B1.grown G B1.size (fun k hk => by simp at hk; omega)
              obtain ⟨_, r0, r1, r2, r3, rf, _⟩ := T
              have rf0 := rf 0
              have rf1 := rf 1
              have rf2 := rf 2
              have rf3 := rf 3
              clear rf
              have Q4 := put4 r0 r1 r2 r3 (.int .i64 0) (.int .i64 0) (.int .i64 0) (.string ⟨#[]⟩)
              have HQ : Hid _ := Q4
              clear Q4
              go_wp2
              obtain ⟨q0, q1, q2, q3⟩ := HQ.out
              exact bodyPost_ret (v := .tuple #[.agg #[.int .i64 0, .int .i64 0, .int .i64 0, .string ⟨#[]⟩], .bool false]) (by simp [results, Tryz.results9, go_sem, q0, q1, q2, q3]) rfl (postK_mk zeroK false (.inr ⟨rfl, rfl, HBad.out⟩) ((((BE.out.setCell (Nat.le_refl _) _).setCell (Nat.le_refl _) _).setCell (Nat.le_refl _) _).setCell (Nat.le_refl _) _))
            · have HW : Hid (∀ m : Nat, m < 1000000000 → x = dec m → v = (m : Int)) := fun m hm e => (HV.out m hm e).1
              have HRR := HR.out
              have kf0 := T.kf 0
              have kf1 := T.kf 1
              have kf2 := T.kf 2
              have k0 := T.k0
              have k1 := T.k1
              have k2 := T.k2
              have HTT : Hid (Two w.heap.size wr h r f ⟨#[]⟩) := T
              have HG : Hid (w1.grownBy wr (some (w.heap.size + 1))) := G
              clear T G HV
              rcases (show j = 0 ∨ j = 1 ∨ 2 ≤ j by omega) with h0 | h0 | h0
              · have HP' : Hid (Part s.data.toList (j + 1) v r f) := part_hand HI.out hj1.out hx.out HW.out HP.out h0
                have hj0 : ((j : Int) == 0) = true := by rw [beq_iff_eq]; omega
                have hj2 : ¬ (1 : Int) < (j : Int) := by omega
                have HT' := HTT.out.set0 v
                have HTH : Hid _ := HT'
                have HG' := Cur.grownBy_set HG.out 0 (.int .i64 v)
                have HGH : Hid _ := HG'
                clear HT' HG'
                have hbd : Hid (-1000000000 < v ∧ v < 1000000000 ∧ -1000000000 < r ∧ r < 1000000000 ∧ 0 ≤ f ∧ f < 1152921504606846976) := by show _ ∧ _; omega
                clear HRR h0
                go_wp2
                go_roundw
                case rel => exact ⟨j + 1, v, r, f, by go_num, by omega, HP', hbd, HTH.out, HGH.out⟩
                case measure => simp [intOf]; omega
              · have HP' : Hid (Part s.data.toList (j + 1) h v f) := part_round HI.out hj1.out hx.out HW.out HP.out h0
                have hj0 : ((j : Int) == 0) = false := by rw [beq_eq_false_iff_ne]; omega
                have hj1' : ((j : Int) == 1) = true := by rw [beq_iff_eq]; omega
                have hj2 : ¬ (1 : Int) < (j : Int) := by omega
                have HT' := HTT.out.set1 v
                have HTH : Hid _ := HT'
                have HG' := Cur.grownBy_set HG.out 1 (.int .i64 v)
                have HGH : Hid _ := HG'
                clear HT' HG'
                have hbd : Hid (-1000000000 < h ∧ h < 1000000000 ∧ -1000000000 < v ∧ v < 1000000000 ∧ 0 ≤ f ∧ f < 1152921504606846976) := by show _ ∧ _; omega
                clear HRR h0
                go_wp2
                go_roundw
                case rel => exact ⟨j + 1, h, v, f, by go_num, by omega, HP', hbd, HTH.out, HGH.out⟩
                case measure => simp [intOf]; omega
              · have hj0 : ((j : Int) == 0) = false := by rw [beq_eq_false_iff_ne]; omega
                have hj1' : ((j : Int) == 1) = false := by rw [beq_eq_false_iff_ne]; omega
                have hj2 : (1 : Int) < (j : Int) := by omega
                cases hin : Base.inB v
                · have HBad : Hid (∀ k, okK k = true → showK k ≠ s.data.toList) := bad_word HI.out hj1.out hx.out (fun m hm e => by
                    have := HW.out m (by omega) e
                    have h3 := (Base.inB_iff v).2 ⟨by omega, by omega⟩
                    rw [hin] at h3; exact Bool.noConfusion h3)
                  have BE : Hid (Below w.heap.size w wr) := B1.grown HG.out B1.size (fun k hk => by simp at hk; omega)
                  obtain ⟨_, r0, r1, r2, r3, rf, _⟩ := HTT.out
                  have rf0 := rf 0
                  have rf1 := rf 1
                  have rf2 := rf 2
                  have rf3 := rf 3
                  clear rf
                  have Q4 := put4 r0 r1 r2 r3 (.int .i64 0) (.int .i64 0) (.int .i64 0) (.string ⟨#[]⟩)
                  have HQ : Hid _ := Q4
                  have HI' : Hid (Base.inB v = false) := hin
                  clear Q4 hin HRR h0
                  go_wp2_with fail
                  refine (Base.l1In59 _ _).mono ?_
                  rintro e w3 ⟨rfl, rfl⟩
                  rw [HI'.out]
                  go_wp2
                  obtain ⟨q0, q1, q2, q3⟩ := HQ.out
                  exact bodyPost_ret (v := .tuple #[.agg #[.int .i64 0, .int .i64 0, .int .i64 0, .string ⟨#[]⟩], .bool false]) (by simp [results, Tryz.results9, go_sem, q0, q1, q2, q3]) rfl (postK_mk zeroK false (.inr ⟨rfl, rfl, HBad.out⟩) ((((BE.out.setCell (Nat.le_refl _) _).setCell (Nat.le_refl _) _).setCell (Nat.le_refl _) _).setCell (Nat.le_refl _) _))
                · obtain ⟨hin0, hin1⟩ := (Base.inB_iff v).1 hin
                  have HP' : Hid (Part s.data.toList (j + 1) h r (Bit.withB f v.toNat)) := part_from HI.out hj1.out hx.out HW.out HP.out h0
                  have HO : Hid (bits .or .i64 f (2 ^ v.toNat) = Bit.withB f v.toNat) := Base.shl_or f v.toNat HRR.2.2.2.2.1 HRR.2.2.2.2.2 (by omega)
                  have hbb := Bit.withB_bd f HRR.2.2.2.2.1 HRR.2.2.2.2.2 v.toNat (by omega)
                  have hbd : Hid (-1000000000 < h ∧ h < 1000000000 ∧ -1000000000 < r ∧ r < 1000000000 ∧ 0 ≤ Bit.withB f v.toNat ∧ Bit.withB f v.toNat < 1152921504606846976) := by show _ ∧ _; omega
                  have HTH : Hid (∀ nq, Two w.heap.size ((wr.drewN nq).setCell ⟨w.heap.size + 1, 2, none⟩ (.int .i64 (Bit.withB f v.toNat))) h r (Bit.withB f v.toNat) ⟨#[]⟩) := fun nq => (HTT.out.drewN nq).set2 (Bit.withB f v.toNat)
                  have HGH : Hid (∀ nq, w1.grownBy ((wr.drewN nq).setCell ⟨w.heap.size + 1, 2, none⟩ (.int .i64 (Bit.withB f v.toNat))) (some (w.heap.size + 1))) := fun nq => Cur.grownBy_set (Cur.grownBy_drewN HG.out nq) 2 _
                  have HI' : Hid (Base.inB v = true) := hin
                  clear hin HRR h0 hbb
                  go_wp2_with fail
                  refine (Base.l1In59 _ _).mono ?_
                  rintro e w3 ⟨rfl, rfl⟩
                  rw [HI'.out]
                  go_wp2_with fail
                  go_region_with (go_at_call 26; refine (Base.l1Bit _ _ hin0 hin1).mono ?_; rintro e w4 ⟨rfl, rfl⟩)
                  all_goals
                    go_wp2
                    go_roundw
                    case rel => exact ⟨j + 1, h, r, Bit.withB f v.toNat, by go_num, by omega, HP', hbd, by rw [HO.out]; exact HTH.out 1, by rw [HO.out]; exact HGH.out 1⟩
                    case measure => simp [intOf]; omega
          · obtain rfl : j = n := by omega
            have hpe : Hid (∀ k, okK k = true → showK k = s.data.toList → h = k.hand ∧ r = k.round ∧ f = k.frm) := fun k hk e => part_end HI.out (by have := HP.out; rwa [show j = (split 32 (s.data.toList.take c)).length - 1 from by rw [← HN.out]; omega] at this) k hk e
            have hwe : Hid (∀ k, okK k = true → showK k = s.data.toList → k.word.data.toList = if c + 2 < s.size then s.data.toList.drop (c + 2) else []) := fun k hk e => by
              have h1 := word_show hk c (by rw [e]; exact HI.out)
              rw [e] at h1
              simpa using h1
            have HRR := HR.out
            have hjn' : ¬ (j : Int) < (j : Int) := by omega
            clear HP HR HI HN hown T1
            by_cases hcw : c + 2 < s.size
            · have hlt2 : c < s.size := by omega
              first
                | (exfalso; omega)
                | skip
              all_goals
                have hcw' : (c : Int) + 2 < (s.size : Int) := by omega
                have hcwt : ((c : Int) + 2).toNat = c + 2 := by omega
                have k3 := T.k3
                have kf3 := T.kf 3
                have k0 := T.k0
                have k1 := T.k1
                have k2 := T.k2
                have HT4 := T.set3 (s.extract (c + 2) s.size)
                have HTH : Hid _ := HT4
                have HG4 := Cur.grownBy_set G 3 (.string (s.extract (c + 2) s.size))
                have HGH : Hid _ := HG4
                clear HT4 HG4 T G
                go_wp2_with fail
                clear k0 k1 k2 k3 kf3
                have T4 := HTH.out
                have B4 := B1.grown HGH.out B1.size (fun k hk => by simp at hk; omega)
                have HK : Hid (∀ k, okK k = true → showK k = s.data.toList → k = ⟨h, r, f, s.extract (c + 2) s.size⟩) := fun k hk e => by
                  obtain ⟨e1, e2, e3⟩ := hpe.out k hk e
                  have e4 := hwe.out k hk e
                  rw [if_pos hcw] at e4
                  have e5 : s.extract (c + 2) s.size = B (s.data.toList.drop (c + 2)) := by
                    rw [sub_extract s (c + 2) s.size (by omega) (Nat.le_refl _)]
                    congr 1
                    unfold sub
                    rw [List.take_of_length_le (by simp)]
                  rw [e1, e2, e3, e5, ← e4, B_data]
                have hwdl : (s.extract (c + 2) s.size).size ≤ 1073741824 := by
                  have := B_of _ _ (sub_extract s (c + 2) s.size (by omega) (Nat.le_refl _))
                  have h2 := congrArg List.length this
                  simp only [sub, List.length_take, List.length_drop] at h2
                  simp at h2
                  simp; omega
                have hwds : (s.extract (c + 2) s.size).size ≤ 1099511627776 := by omega
                clear HTH HGH hpe hwe
                generalize wr.setCell ⟨w.heap.size + 1, 3, none⟩ (.string (s.extract (c + 2) s.size)) = w4 at T4 B4 ⊢
                generalize s.extract (c + 2) s.size = wd at T4 HK hwdl hwds ⊢
                refine (specKnotOk _ _ _ _ _ hwds).mono ?_
                rintro e w5 ⟨rfl, hb5⟩
                have T5 := T4.below hb5
                have B5 := B4.trans (hb5.mono B4.size)
                clear hb5 T4 B4
                cases hok : okK ⟨h, r, f, wd⟩
                · have HBad : Hid (∀ k, okK k = true → showK k ≠ s.data.toList) := fun k hk e => by
                    have := HK.out k hk e
                    rw [← this, hk] at hok; exact Bool.noConfusion hok
                  obtain ⟨_, r0, r1, r2, r3, rf, _⟩ := T5
                  have rf0 := rf 0
                  have rf1 := rf 1
                  have rf2 := rf 2
                  have rf3 := rf 3
                  clear rf
                  have Q4 := put4 r0 r1 r2 r3 (.int .i64 0) (.int .i64 0) (.int .i64 0) (.string ⟨#[]⟩)
                  have HQ : Hid _ := Q4
                  clear Q4 hok
                  go_wp2
                  obtain ⟨q0, q1, q2, q3⟩ := HQ.out
                  exact bodyPost_ret (v := .tuple #[.agg #[.int .i64 0, .int .i64 0, .int .i64 0, .string ⟨#[]⟩], .bool false]) (by simp [results, Tryz.results9, go_sem, q0, q1, q2, q3]) rfl (postK_mk zeroK false (.inr ⟨rfl, rfl, HBad.out⟩) ((((B5.setCell (Nat.le_refl _) _).setCell (Nat.le_refl _) _).setCell (Nat.le_refl _) _).setCell (Nat.le_refl _) _))
                · have HOK : Hid (okK ⟨h, r, f, wd⟩ = true) := hok
                  have hp := okK_parts hok
                  obtain ⟨⟨ph, _⟩, ⟨pr, _⟩, ⟨pf0, pf1⟩, _⟩ := hp
                  simp only at ph pr pf0 pf1
                  clear hok HRR
                  obtain ⟨hn, rfl⟩ := Int.eq_ofNat_of_zero_le ph
                  obtain ⟨rn, rfl⟩ := Int.eq_ofNat_of_zero_le pr
                  obtain ⟨_, r0, r1, r2, r3, rf, k0, k1, k2, k3, _⟩ := id T5
                  have HT5 : Hid (Two w.heap.size w5 hn rn f wd) := T5
                  clear T5 rf r0 r1 r2 r3
                  go_wp2_with fail
                  refine (l2Show hn rn f wd _ (by have := HOK.out; have := (okK_parts this).1; simp only at this; omega) (by have := HOK.out; have := (okK_parts this).2.1; simp only at this; omega) pf0 pf1 hwdl).mono ?_
                  rintro e w6 ⟨rfl, hb6⟩
                  have T6 := HT5.out.below hb6
                  have B6 := B5.trans (hb6.mono B5.size)
                  clear hb6 HT5 B5 k0 k1 k2 k3
                  by_cases heq : showK ⟨hn, rn, f, wd⟩ = s.data.toList
                  · have hsb : (B (showK ⟨hn, rn, f, wd⟩)) = s := by rw [heq]; exact B_data s
                    rw [hsb]
                    obtain ⟨_, r0, r1, r2, r3, rf, k0, k1, k2, k3, kf⟩ := T6
                    have rf0 := rf 0
                    have rf1 := rf 1
                    have rf2 := rf 2
                    have rf3 := rf 3
                    clear rf kf hsb
                    have Q4 := put4 r0 r1 r2 r3 (.int .i64 (hn : Int)) (.int .i64 (rn : Int)) (.int .i64 f) (.string wd)
                    have HQ : Hid _ := Q4
                    have HE : Hid (showK ⟨hn, rn, f, wd⟩ = s.data.toList) := heq
                    clear Q4 heq
                    go_wp2
                    obtain ⟨q0, q1, q2, q3⟩ := HQ.out
                    exact bodyPost_ret (v := .tuple #[.agg #[.int .i64 (hn : Int), .int .i64 (rn : Int), .int .i64 f, .string wd], .bool true]) (by simp [results, Tryz.results9, go_sem, q0, q1, q2, q3]) rfl (postK_mk ⟨hn, rn, f, wd⟩ true (.inl ⟨rfl, HOK.out, HE.out⟩) ((((B6.setCell (Nat.le_refl _) _).setCell (Nat.le_refl _) _).setCell (Nat.le_refl _) _).setCell (Nat.le_refl _) _))
                  · have HBad : Hid (∀ k, okK k = true → showK k ≠ s.data.toList) := fun k hk e => by
                      have := HK.out k hk e
                      rw [this] at e; exact heq e
                    have hsb : ((B (showK ⟨hn, rn, f, wd⟩)).toList == s.toList) = false := by
                      rw [beq_eq_false_iff_ne, B_list, ByteArray.toList_eq]; exact heq
                    have hsb2 : (showK ⟨hn, rn, f, wd⟩ == s.toList) = false := by
                      rw [beq_eq_false_iff_ne, ByteArray.toList_eq]; exact heq
                    obtain ⟨_, r0, r1, r2, r3, rf, _⟩ := T6
                    have rf0 := rf 0
                    have rf1 := rf 1
                    have rf2 := rf 2
                    have rf3 := rf 3
                    clear rf
                    have Q4 := put4 r0 r1 r2 r3 (.int .i64 0) (.int .i64 0) (.int .i64 0) (.string ⟨#[]⟩)
                    have HQ : Hid _ := Q4
                    clear Q4 heq
                    go_wp2
                    obtain ⟨q0, q1, q2, q3⟩ := HQ.out
                    exact bodyPost_ret (v := .tuple #[.agg #[.int .i64 0, .int .i64 0, .int .i64 0, .string ⟨#[]⟩], .bool false]) (by simp [results, Tryz.results9, go_sem, q0, q1, q2, q3]) rfl (postK_mk zeroK false (.inr ⟨rfl, rfl, HBad.out⟩) ((((B6.setCell (Nat.le_refl _) _).setCell (Nat.le_refl _) _).setCell (Nat.le_refl _) _).setCell (Nat.le_refl _) _))
            · have hcw' : ¬ (c : Int) + 2 < (s.size : Int) := by omega
              have k3 := T.k3
              have k0 := T.k0
              have k1 := T.k1
              have k2 := T.k2
              go_wp2_with fail
              clear k0 k1 k2 k3
              have T4 := T
              have B4 := B1.grown G B1.size (fun k hk => by simp at hk; omega)
              have HK : Hid (∀ k, okK k = true → showK k = s.data.toList → k = ⟨h, r, f, ⟨#[]⟩⟩) := fun k hk e => by
                obtain ⟨e1, e2, e3⟩ := hpe.out k hk e
                have e4 := hwe.out k hk e
                rw [if_neg hcw] at e4
                have e5 : (⟨#[]⟩ : ByteArray) = B [] := rfl
                rw [e1, e2, e3, e5, ← e4, B_data]
              have hwdl : (⟨#[]⟩ : ByteArray).size ≤ 1073741824 := by decide
              have hwds : (⟨#[]⟩ : ByteArray).size ≤ 1099511627776 := by decide
              clear T G hpe hwe
              generalize (⟨#[]⟩ : ByteArray) = wd at T4 HK hwdl hwds ⊢
              refine (specKnotOk _ _ _ _ _ hwds).mono ?_
              rintro e w5 ⟨rfl, hb5⟩
              have T5 := T4.below hb5
              have B5 := B4.trans (hb5.mono B4.size)
              clear hb5 T4 B4
              cases hok : okK ⟨h, r, f, wd⟩
              · have HBad : Hid (∀ k, okK k = true → showK k ≠ s.data.toList) := fun k hk e => by
                  have := HK.out k hk e
                  rw [← this, hk] at hok; exact Bool.noConfusion hok
                obtain ⟨_, r0, r1, r2, r3, rf, _⟩ := T5
                have rf0 := rf 0
                have rf1 := rf 1
                have rf2 := rf 2
                have rf3 := rf 3
                clear rf
                have Q4 := put4 r0 r1 r2 r3 (.int .i64 0) (.int .i64 0) (.int .i64 0) (.string ⟨#[]⟩)
                have HQ : Hid _ := Q4
                clear Q4 hok
                go_wp2
                obtain ⟨q0, q1, q2, q3⟩ := HQ.out
                exact bodyPost_ret (v := .tuple #[.agg #[.int .i64 0, .int .i64 0, .int .i64 0, .string ⟨#[]⟩], .bool false]) (by simp [results, Tryz.results9, go_sem, q0, q1, q2, q3]) rfl (postK_mk zeroK false (.inr ⟨rfl, rfl, HBad.out⟩) ((((B5.setCell (Nat.le_refl _) _).setCell (Nat.le_refl _) _).setCell (Nat.le_refl _) _).setCell (Nat.le_refl _) _))
              · have HOK : Hid (okK ⟨h, r, f, wd⟩ = true) := hok
                have hp := okK_parts hok
                obtain ⟨⟨ph, _⟩, ⟨pr, _⟩, ⟨pf0, pf1⟩, _⟩ := hp
                simp only at ph pr pf0 pf1
                clear hok HRR
                obtain ⟨hn, rfl⟩ := Int.eq_ofNat_of_zero_le ph
                obtain ⟨rn, rfl⟩ := Int.eq_ofNat_of_zero_le pr
                obtain ⟨_, r0, r1, r2, r3, rf, k0, k1, k2, k3, _⟩ := id T5
                have HT5 : Hid (Two w.heap.size w5 hn rn f wd) := T5
                clear T5 rf r0 r1 r2 r3
                go_wp2_with fail
                refine (l2Show hn rn f wd _ (by have := HOK.out; have := (okK_parts this).1; simp only at this; omega) (by have := HOK.out; have := (okK_parts this).2.1; simp only at this; omega) pf0 pf1 hwdl).mono ?_
                rintro e w6 ⟨rfl, hb6⟩
                have T6 := HT5.out.below hb6
                have B6 := B5.trans (hb6.mono B5.size)
                clear hb6 HT5 B5 k0 k1 k2 k3
                by_cases heq : showK ⟨hn, rn, f, wd⟩ = s.data.toList
                · have hsb : (B (showK ⟨hn, rn, f, wd⟩)) = s := by rw [heq]; exact B_data s
                  rw [hsb]
                  obtain ⟨_, r0, r1, r2, r3, rf, k0, k1, k2, k3, kf⟩ := T6
                  have rf0 := rf 0
                  have rf1 := rf 1
                  have rf2 := rf 2
                  have rf3 := rf 3
                  clear rf kf hsb
                  have Q4 := put4 r0 r1 r2 r3 (.int .i64 (hn : Int)) (.int .i64 (rn : Int)) (.int .i64 f) (.string wd)
                  have HQ : Hid _ := Q4
                  have HE : Hid (showK ⟨hn, rn, f, wd⟩ = s.data.toList) := heq
                  clear Q4 heq
                  go_wp2
                  obtain ⟨q0, q1, q2, q3⟩ := HQ.out
                  exact bodyPost_ret (v := .tuple #[.agg #[.int .i64 (hn : Int), .int .i64 (rn : Int), .int .i64 f, .string wd], .bool true]) (by simp [results, Tryz.results9, go_sem, q0, q1, q2, q3]) rfl (postK_mk ⟨hn, rn, f, wd⟩ true (.inl ⟨rfl, HOK.out, HE.out⟩) ((((B6.setCell (Nat.le_refl _) _).setCell (Nat.le_refl _) _).setCell (Nat.le_refl _) _).setCell (Nat.le_refl _) _))
                · have HBad : Hid (∀ k, okK k = true → showK k ≠ s.data.toList) := fun k hk e => by
                    have := HK.out k hk e
                    rw [this] at e; exact heq e
                  have hsb : ((B (showK ⟨hn, rn, f, wd⟩)).toList == s.toList) = false := by
                    rw [beq_eq_false_iff_ne, B_list, ByteArray.toList_eq]; exact heq
                  have hsb2 : (showK ⟨hn, rn, f, wd⟩ == s.toList) = false := by
                    rw [beq_eq_false_iff_ne, ByteArray.toList_eq]; exact heq
                  obtain ⟨_, r0, r1, r2, r3, rf, _⟩ := T6
                  have rf0 := rf 0
                  have rf1 := rf 1
                  have rf2 := rf 2
                  have rf3 := rf 3
                  clear rf
                  have Q4 := put4 r0 r1 r2 r3 (.int .i64 0) (.int .i64 0) (.int .i64 0) (.string ⟨#[]⟩)
                  have HQ : Hid _ := Q4
                  clear Q4 heq
                  go_wp2
                  obtain ⟨q0, q1, q2, q3⟩ := HQ.out
                  exact bodyPost_ret (v := .tuple #[.agg #[.int .i64 0, .int .i64 0, .int .i64 0, .string ⟨#[]⟩], .bool false]) (by simp [results, Tryz.results9, go_sem, q0, q1, q2, q3]) rfl (postK_mk zeroK false (.inr ⟨rfl, rfl, HBad.out⟩) ((((B6.setCell (Nat.le_refl _) _).setCell (Nat.le_refl _) _).setCell (Nat.le_refl _) _).setCell (Nat.le_refl _) _))

end Kn
end Go.Proofs.YtiopckkcdmeagaaGreatDoor
