/- Plain mathematics of layer 4: a disk as its file, what is synced of it, its power, its trip. No program. -/
import Derived.Test.YtaogpchjkbcjoaaMem
namespace Go.Proofs.Ytaogpchjkbcjoaa.Dk
open Go Mem
structure St where
  room : Nat
  file : List Nat
  safe : Nat
  off : Bool
  armed : Nat
  keep : Int
def St.new (room : Nat) : St := ⟨room, [], 0, false, 0, 0⟩
/-- how many bytes stay when the power goes -/
def St.left (s : St) (keep : Int) : Nat := s.safe + min keep.toNat (s.file.length - s.safe)
/-- the power goes, and was on -/
def St.gone (s : St) (keep : Int) : St := ⟨s.room, s.file.take (s.left keep), s.left keep, true, 0, s.keep⟩
def St.crash (s : St) (keep : Int) : St := if s.off then s else s.gone keep
def St.start (s : St) : St := ⟨s.room, s.file, s.safe, false, s.armed, s.keep⟩
def St.trip (s : St) (n keep : Int) : St := if s.off then s else ⟨s.room, s.file, s.safe, s.off, n.toNat, keep⟩
/-- a write that is not the last one has been done -/
def St.less (s : St) : St := ⟨s.room, s.file, s.safe, s.off, s.armed - 1, s.keep⟩
def St.with_ (s : St) (file : List Nat) (safe : Nat) : St := ⟨s.room, file, safe, s.off, s.armed, s.keep⟩
def St.append (s : St) (b : List Nat) : St × Int :=
  if s.off then (s, 4)
  else if s.room < s.file.length + b.length then (s, 5)
  else if s.armed = 1 then ((s.with_ (s.file ++ b) s.safe).gone s.keep, 4)
  else ((s.with_ (s.file ++ b) s.safe).less, 0)
def St.sync (s : St) : St × Int :=
  if s.off then (s, 4)
  else if s.armed = 1 then (s.gone s.keep, 4)
  else ((s.with_ s.file s.file.length).less, 0)
def St.replace (s : St) (b : List Nat) : St × Int :=
  if s.off then (s, 4)
  else if s.room < b.length then (s, 5)
  else if s.armed = 1 then (s.gone s.keep, 4)
  else ((s.with_ b b.length).less, 0)
/-- a disk that may be -/
structure St.Ok (s : St) : Prop where
  room : s.room ≤ 65536
  fits : s.file.length ≤ s.room
  safe : s.safe ≤ s.file.length
  b8 : B8 s.file
  still : s.off = true → s.armed = 0 ∧ s.safe = s.file.length
  kmin : -9223372036854775808 ≤ s.keep
  kmax : s.keep ≤ 9223372036854775807
  amax : s.armed ≤ 9223372036854775807
theorem St.left_le {s : St} (h : s.safe ≤ s.file.length) (k : Int) : s.safe ≤ s.left k ∧ s.left k ≤ s.file.length := by
  unfold St.left
  have : min k.toNat (s.file.length - s.safe) ≤ s.file.length - s.safe := Nat.min_le_right _ _
  omega
theorem St.Ok.new {room : Nat} (h : room ≤ 65536) : (St.new room).Ok := ⟨h, Nat.zero_le _, Nat.le_refl _, B8.nil, (fun h => by cases h), by show (-9223372036854775808 : Int) ≤ 0; decide, by show (0 : Int) ≤ 9223372036854775807; decide, by show 0 ≤ 9223372036854775807; decide⟩
theorem St.Ok.gone {s : St} (h : s.Ok) (k : Int) : (s.gone k).Ok := by
  have hl := St.left_le h.safe k
  have e : (s.file.take (s.left k)).length = s.left k := by rw [List.length_take]; omega
  have hf := h.fits
  exact ⟨h.room, by show (s.file.take (s.left k)).length ≤ s.room; omega, by show s.left k ≤ (s.file.take (s.left k)).length; omega, h.b8.take _, fun _ => ⟨rfl, e.symm⟩, h.kmin, h.kmax, by show 0 ≤ _; decide⟩
theorem St.Ok.crash {s : St} (h : s.Ok) (k : Int) : (s.crash k).Ok := by unfold St.crash; split; exact h; exact h.gone k
theorem St.Ok.start {s : St} (h : s.Ok) : s.start.Ok := ⟨h.room, h.fits, h.safe, h.b8, (fun e => by cases e), h.kmin, h.kmax, h.amax⟩
theorem St.Ok.trip {s : St} (h : s.Ok) {n k : Int} (hn : n ≤ 9223372036854775807) (h1 : -9223372036854775808 ≤ k) (h2 : k ≤ 9223372036854775807) : (s.trip n k).Ok := by
  unfold St.trip
  split
  · exact h
  · rename_i ho
    exact ⟨h.room, h.fits, h.safe, h.b8, fun e => absurd e ho, h1, h2, by show n.toNat ≤ _; omega⟩
theorem St.Ok.less {s : St} (h : s.Ok) : s.less.Ok := ⟨h.room, h.fits, h.safe, h.b8, fun e => ⟨by show s.armed - 1 = 0; rw [(h.still e).1], (h.still e).2⟩, h.kmin, h.kmax, by have := h.amax; show s.armed - 1 ≤ _; omega⟩
theorem St.Ok.with_ {s : St} (h : s.Ok) (ho : s.off = false) {f : List Nat} {n : Nat} (hf : f.length ≤ s.room) (hn : n ≤ f.length) (h8 : B8 f) : (s.with_ f n).Ok := ⟨h.room, hf, hn, h8, (fun e => by rw [show (s.with_ f n).off = s.off from rfl, ho] at e; cases e), h.kmin, h.kmax, h.amax⟩
theorem St.Ok.append {s : St} (h : s.Ok) {b : List Nat} (h8 : B8 b) : (s.append b).1.Ok := by
  have h1 := h.safe
  unfold St.append
  split
  · exact h
  · rename_i ho
    have ho' : s.off = false := by simpa using ho
    split
    · exact h
    · have hw : (s.with_ (s.file ++ b) s.safe).Ok := h.with_ ho' (by rw [List.length_append]; omega) (by rw [List.length_append]; omega) (h.b8.append h8)
      split
      · exact hw.gone _
      · exact hw.less
theorem St.Ok.sync {s : St} (h : s.Ok) : s.sync.1.Ok := by
  unfold St.sync
  split
  · exact h
  · rename_i ho
    have ho' : s.off = false := by simpa using ho
    split
    · exact h.gone _
    · exact (h.with_ ho' h.fits (Nat.le_refl _) h.b8).less
theorem St.Ok.replace {s : St} (h : s.Ok) {b : List Nat} (h8 : B8 b) : (s.replace b).1.Ok := by
  unfold St.replace
  split
  · exact h
  · rename_i ho
    have ho' : s.off = false := by simpa using ho
    split
    · exact h
    · split
      · exact h.gone _
      · exact (h.with_ ho' (by omega) (Nat.le_refl _) h8).less
/-- ways to say what a write does -/
theorem St.append_off {s : St} (h : s.off = true) (b : List Nat) : s.append b = (s, 4) := by unfold St.append; rw [if_pos h]
theorem St.append_full {s : St} (h : s.off = false) {b : List Nat} (hf : s.room < s.file.length + b.length) : s.append b = (s, 5) := by unfold St.append; rw [h, if_neg (by decide), if_pos hf]
theorem St.append_last {s : St} (h : s.off = false) {b : List Nat} (hf : s.file.length + b.length ≤ s.room) (ha : s.armed = 1) : s.append b = ((s.with_ (s.file ++ b) s.safe).gone s.keep, 4) := by unfold St.append; rw [h, if_neg (by decide), if_neg (by omega), if_pos ha]
theorem St.append_ok {s : St} (h : s.off = false) {b : List Nat} (hf : s.file.length + b.length ≤ s.room) (ha : s.armed ≠ 1) : s.append b = ((s.with_ (s.file ++ b) s.safe).less, 0) := by unfold St.append; rw [h, if_neg (by decide), if_neg (by omega), if_neg ha]
theorem St.sync_off {s : St} (h : s.off = true) : s.sync = (s, 4) := by unfold St.sync; rw [if_pos h]
theorem St.sync_last {s : St} (h : s.off = false) (ha : s.armed = 1) : s.sync = (s.gone s.keep, 4) := by unfold St.sync; rw [h, if_neg (by decide), if_pos ha]
theorem St.sync_ok {s : St} (h : s.off = false) (ha : s.armed ≠ 1) : s.sync = ((s.with_ s.file s.file.length).less, 0) := by unfold St.sync; rw [h, if_neg (by decide), if_neg ha]
theorem St.replace_off {s : St} (h : s.off = true) (b : List Nat) : s.replace b = (s, 4) := by unfold St.replace; rw [if_pos h]
theorem St.replace_full {s : St} (h : s.off = false) {b : List Nat} (hf : s.room < b.length) : s.replace b = (s, 5) := by unfold St.replace; rw [h, if_neg (by decide), if_pos hf]
theorem St.replace_last {s : St} (h : s.off = false) {b : List Nat} (hf : b.length ≤ s.room) (ha : s.armed = 1) : s.replace b = (s.gone s.keep, 4) := by unfold St.replace; rw [h, if_neg (by decide), if_neg (by omega), if_pos ha]
theorem St.replace_ok {s : St} (h : s.off = false) {b : List Nat} (hf : b.length ≤ s.room) (ha : s.armed ≠ 1) : s.replace b = ((s.with_ b b.length).less, 0) := by unfold St.replace; rw [h, if_neg (by decide), if_neg (by omega), if_neg ha]
theorem St.append_code (s : St) (b : List Nat) : (s.append b).2 = 0 ∨ (s.append b).2 = 4 ∨ (s.append b).2 = 5 := by
  unfold St.append; split; exact .inr (.inl rfl); split; exact .inr (.inr rfl); split; exact .inr (.inl rfl); exact .inl rfl
theorem St.sync_code (s : St) : s.sync.2 = 0 ∨ s.sync.2 = 4 ∨ s.sync.2 = 5 := by
  unfold St.sync; split; exact .inr (.inl rfl); split; exact .inr (.inl rfl); exact .inl rfl
theorem St.replace_code (s : St) (b : List Nat) : (s.replace b).2 = 0 ∨ (s.replace b).2 = 4 ∨ (s.replace b).2 = 5 := by
  unfold St.replace; split; exact .inr (.inl rfl); split; exact .inr (.inr rfl); split; exact .inr (.inl rfl); exact .inl rfl
end Go.Proofs.Ytaogpchjkbcjoaa.Dk
