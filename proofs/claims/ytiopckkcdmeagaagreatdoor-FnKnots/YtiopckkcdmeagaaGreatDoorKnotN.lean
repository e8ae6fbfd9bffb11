/-
  What the program's own reading of a knot answers: the right knot whose text it is and true, else the zero knot and false; for texts of at most 2^30 bytes, the library's tables as they are laid.
-/
import Derived.Test.YtiopckkcdmeagaaGreatDoorKnotL
import Derived.Deep.RegionWith
import Derived.Deep.DeepCutAuto
namespace Go.Proofs.YtiopckkcdmeagaaGreatDoor
open Go.RowKit
set_option maxRecDepth 100000
namespace Kn

/-- the numbers are those of the texts, where each text is a number's -/
def NumsOf (L : List (List UInt8)) (k : Nat) (nums : List Int) : Prop := ∀ ms : List Nat, (∀ m ∈ ms, m < 1000000000) → L = ms.map dec → nums = (ms.take k).map (fun m : Nat => (m : Int))

theorem nums_step {L : List (List UInt8)} {k : Nat} {nums : List Int} {n : Int} (h : NumsOf L k nums) (hk : k < L.length) (hr : ∀ m : Nat, m < 1000000000 → L[k] = dec m → n = (m : Int)) : NumsOf L (k + 1) (nums ++ [n]) := by
  intro ms hms e
  have hkm : k < ms.length := by rw [e] at hk; simpa using hk
  have e1 : L[k] = dec ms[k] := by
    have : L[k]? = some (dec ms[k]) := by rw [e]; simp [hkm]
    rw [List.getElem?_eq_getElem hk] at this
    exact Option.some.inj this
  rw [h ms hms e, hr ms[k] (hms _ (List.getElem_mem hkm)) e1, List.take_succ_eq_append_getElem hkm, List.map_append]
  rfl

theorem nums_bad {L : List (List UInt8)} {k : Nat} (hk : k < L.length) (hr : ∀ m : Nat, m < 1000000000 → L[k] ≠ dec m) (ms : List Nat) (hms : ∀ m ∈ ms, m < 1000000000) (e : L = ms.map dec) : False := by
  have hkm : k < ms.length := by rw [e] at hk; simpa using hk
  have e1 : L[k] = dec ms[k] := by
    have : L[k]? = some (dec ms[k]) := by rw [e]; simp [hkm]
    rw [List.getElem?_eq_getElem hk] at this
    exact Option.some.inj this
  exact hr ms[k] (hms _ (List.getElem_mem hkm)) e1

/-- how the reading of many numbers ends -/
def NumsPost (L : List (List UInt8)) (w : World) (e : Ending) (w' : World) : Prop := ∃ (nums : List Int) (b : Bool) (ao : Option Addr) (cap : Nat),
  e = .returned (.tuple #[.slice ao nums.length cap, .bool b]) ∧ Memb.Own w.heap.size w' ao cap nums ∧ (∀ ms : List Nat, (∀ m ∈ ms, m < 1000000000) → L = ms.map dec → b = true ∧ nums = ms.map (fun m : Nat => (m : Int))) ∧ nums.length ≤ L.length ∧ Below w.heap.size w w'

set_option maxHeartbeats 3200000 in
theorem readNumbers (L : List (List UInt8)) (ao : Option Addr) (cap base : Nat) (w : World) (t : Tabs w) (h : OwnS base w ao cap L) (hl : L.length ≤ 4294967296) (hx : ∀ x ∈ L, x.length ≤ 1073741824) :
    Calls Tryz.prog 39 #[.slice ao L.length cap] w (NumsPost L w) := by
  obtain ⟨i0, hi, hz0, hz1, hz2⟩ := info_parts Memb.info2
  have HO : Hid (OwnS base w ao cap L) := h
  clear h
  obtain ⟨n, hn⟩ : ∃ n, n = L.length := ⟨_, rfl⟩
  have HN : Hid (n = L.length) := hn
  rw [← hn] at hl ⊢
  clear hn
  go_enter Tryz.func39, Tryz.ntmps39
  go_wp2
  go_loopw [4, 12] (fun v i wr => ∃ (k : Nat) (nums : List Int), k ≤ n ∧ nums.length = k ∧ i = .int .i64 k ∧ wr.ownsRow w.heap.size 2 1 v nums.length (nums.map (Value.int .i64)) ∧ Hid (NumsOf L k nums) ∧ Below w.heap.size w wr ∧ w.heap.size ≤ wr.heap.size)
    (fun _ i _ => n - (intOf i).toNat)
  case atStart => exact ⟨0, [], by omega, rfl, rfl, Memb.own_empty w, fun ms _ _ => by simp, (Below.refl _ _).alloc (Nat.le_refl _) _, by simp⟩
  case round =>
    obtain ⟨k, nums, hk, hnl, rfl, hown, HA, hnx, hB⟩ := hrel
    by_cases hlt : k < n
    · have hkl : k < L.length := by rw [← HN.out]; exact hlt
      obtain ⟨g, rfl, hg, hcell⟩ := ownS_cell (row_below HO.out hnx) k hkl
      have hxl := hx _ (List.getElem_mem hkl)
      have hxs : (B L[k]).size ≤ 1099511627776 := by rw [B_size]; omega
      have T1 := t.below hnx
      have hlt' : (k : Int) < (n : Int) := by omega
      go_wp2_with fail
      refine (readNumber _ _ T1 hxs).mono ?_
      rintro e w1 ⟨v, b, rfl, hR, hb1⟩
      have HR : Hid (∀ m : Nat, m < 1000000000 → L[k] = dec m → v = (m : Int) ∧ b = true) := fun m hm e => hR m hm (by rw [e])
      clear hR
      replace hown := row_below hown hb1
      replace hnx := hnx.trans (hb1.mono hnx.size)
      replace hB := Nat.le_trans hB hb1.size
      clear hb1 T1 hcell
      cases b
      · have HBad : Hid (∀ ms : List Nat, (∀ m ∈ ms, m < 1000000000) → L = ms.map dec → False) := nums_bad hkl (fun m hm e => Bool.noConfusion (HR.out m hm e).2)
        go_wp2
        go_ret2
        exact ⟨[], false, none, 0, rfl, World.ownsRow_nil _ _ _ _, fun ms hms e => (HBad.out ms hms e).elim, by simp, hnx⟩
      · have HS : Hid (NumsOf L (k + 1) (nums ++ [v])) := nums_step HA.out hkl (fun m hm e => (HR.out m hm e).1)
        clear HR HA
        go_wp2_with (at_builtin; refine wpList_append_own _ rfl _ _ 56 rfl w.heap.size 2 i0 (.int .i64 0) 1 8 Tryz.underlying56 hi hz0 hz1 hz2 rfl (by decide) _ _ _ rfl (hown.alloc _) ⟨w1.heap.size, 0, none⟩ 1 1 [.int .i64 v] rfl rfl ?c1 ?c2 ?c3 ?c4 ?c5 ?_)
        case c1 =>
          intro j u hj
          match j, hj with
          | 0, hj => simp at hj; subst hj; simp [Addr.add]
        case c2 => intro u hu; simp at hu; subst hu; rfl
        case c3 => unfold maxLen; omega
        case c4 => omega
        case c5 => simp; omega
        intro v' w2 hown' hgrow _
        have hown2 : w2.ownsRow w.heap.size 2 1 v' (nums.length + 1) (nums.map (Value.int .i64) ++ [.int .i64 v]) := by rw [hnl]; exact hown'
        have R := Memb.rel_put (l := nums) (l' := nums ++ [v]) (x := v) rfl hB hown hnx hown2 hgrow
        clear hown' hown2 hgrow hown
        go_wp2
        go_roundw
        case rel => exact ⟨k + 1, nums ++ [v], by omega, by simp [hnl], by go_num, R.1, HS, R.2.1, R.2.2⟩
        case measure => simp [intOf]; omega
    · obtain rfl : k = n := by omega
      have HE : Hid (∀ ms : List Nat, (∀ m ∈ ms, m < 1000000000) → L = ms.map dec → nums = ms.map (fun m : Nat => (m : Int))) := by
        intro ms hms e
        rw [HA.out ms hms e, HN.out, e, List.length_map, List.take_length]
      have hle : nums.length ≤ L.length := by rw [hnl, HN.out]; exact Nat.le_refl _
      obtain ⟨ao', cap', hv, ho⟩ := Memb.own_shape hown
      have HV : Hid (u4 = .slice ao' nums.length cap') := hv
      have hlt' : ¬ (k : Int) < (k : Int) := by omega
      clear hv hown HA hnl
      go_wp2
      rw [HV.out]
      go_ret2
      exact ⟨nums, true, ao', cap', rfl, ho, fun ms hms e => ⟨rfl, HE.out ms hms e⟩, hle, hnx⟩

/-! ### the numbers of a right knot's text -/

theorem below_drewN' {b : Nat} {w w1 : World} (h : Below b w w1) (n : Nat) : Below b w (w1.drewN n) := ⟨h.os, h.tape, h.output, h.size, h.block⟩

def msK (k : K) : List Nat := k.hand.toNat :: k.round.toNat :: (Bit.memTo k.frm 60).map (fun m => m.toNat)
theorem words_ms (k : K) : wordsK k = (msK k).map dec := by simp [wordsK, msK, Function.comp_def]
theorem ms_small {k : K} (h : okK k = true) : ∀ m ∈ msK k, m < 1000000000 := by
  obtain ⟨⟨a1, a2⟩, ⟨a3, a4⟩, _⟩ := okK_parts h
  intro m hm
  simp only [msK, List.mem_cons, List.mem_map] at hm
  rcases hm with rfl | rfl | ⟨x, hx, rfl⟩
  · omega
  · omega
  · have := mem60 _ x hx; omega
theorem ms_int {k : K} (h : okK k = true) : (msK k).map (fun m : Nat => (m : Int)) = k.hand :: k.round :: Bit.memTo k.frm 60 := by
  obtain ⟨⟨a1, a2⟩, ⟨a3, a4⟩, _⟩ := okK_parts h
  have e1 : ((k.hand.toNat : Nat) : Int) = k.hand := by omega
  have e2 : ((k.round.toNat : Nat) : Int) = k.round := by omega
  have e3 : ∀ l : List Int, (∀ x ∈ l, 0 ≤ x ∧ x < 60) → (l.map (fun m => m.toNat)).map (fun m : Nat => (m : Int)) = l := by
    intro l
    induction l with
    | nil => intro _; rfl
    | cons x l ih =>
      intro hl
      have hx := hl x (by simp)
      rw [List.map_cons, List.map_cons, ih (fun y hy => hl y (by simp [hy]))]
      have : ((x.toNat : Nat) : Int) = x := by omega
      rw [this]
  unfold msK
  rw [List.map_cons, List.map_cons, e1, e2, e3 _ (fun x hx => mem60 _ x hx)]

/-- the set that grows number by number -/
def foldW (l : List Int) : Int := l.foldl Base.withI 0
theorem foldW_snoc (l : List Int) (m : Int) : foldW (l ++ [m]) = Base.withI (foldW l) m := by simp [foldW]
theorem foldW_from (l : List Int) : (∀ m ∈ l, 0 ≤ m ∧ m < 60) → foldW l = fromTo l := by
  refine snoc_ind (P := fun l => (∀ m ∈ l, 0 ≤ m ∧ m < 60) → foldW l = fromTo l) (fun _ => rfl) ?_ l
  intro l m ih h
  have h1 : ∀ x ∈ l, 0 ≤ x ∧ x < 60 := fun x hx => h x (by simp [hx])
  have hm := h m (by simp)
  have hb := fromTo_bd l h1
  rw [foldW_snoc, ih h1, fromTo_snoc]
  unfold Base.withI
  rw [(Base.okB_iff _).2 hb, (Base.inB_iff m).2 hm]; rfl
theorem foldW_mem (s : Int) (h0 : 0 ≤ s) (h1 : s < 1152921504606846976) : foldW (Bit.memTo s 60) = s := by
  rw [foldW_from _ (fun m hm => mem60 _ m hm), fromTo_mem s h0 h1]

/-- how the rough reading ends -/
def RoughPost (s : ByteArray) (w : World) (e : Ending) (w' : World) : Prop := ∃ (h r f : Int) (wd : ByteArray) (b : Bool),
  e = .returned (.tuple #[.agg #[.int .i64 h, .int .i64 r, .int .i64 f, .string wd], .bool b]) ∧ wd.size ≤ s.size ∧ (∀ k, okK k = true → showK k = s.data.toList → b = true ∧ k = ⟨h, r, f, wd⟩) ∧ Below w.heap.size w w'

end Kn
end Go.Proofs.YtiopckkcdmeagaaGreatDoor
