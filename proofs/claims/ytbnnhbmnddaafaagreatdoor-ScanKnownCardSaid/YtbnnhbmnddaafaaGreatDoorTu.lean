/- The chapter's examples, as the machine answers them (for ScanKnown). WRITTEN by gen_tu.py. -/
import Derived.Test.YtbnnhbmnddaafaaGreatDoorGz13
import Derived.Test.YtbnnhbmnddaafaaGreatDoorGz8
namespace Go.Proofs.YtbnnhbmnddaafaaGreatDoor
open Go Go.RowKit Go.Kt Go.Shelf Go.Lib

theorem scanShown0 : scanS ⟨#[38, 32, 97, 32, 60, 60, 60, 32, 39, 98, 32, 99, 39, 32, 47, 32, 99, 104, 32, 35, 32, 120]⟩ = .ok [⟨2, [38], (1, 1, 0)⟩, ⟨1, [97], (1, 3, 2)⟩, ⟨2, [60, 60, 60], (1, 5, 4)⟩, ⟨1, [98, 32, 99], (1, 9, 8)⟩, ⟨2, [47], (1, 15, 14)⟩, ⟨1, [99, 104], (1, 17, 16)⟩, ⟨0, [], (1, 23, 22)⟩] := by kernel_rfl
theorem scanShown1 : scanS ⟨#[38, 91, 98, 101, 102, 111, 114, 101, 32, 32, 49, 93, 97, 60, 42, 98, 45, 100, 61, 120]⟩ = .ok [⟨2, [38], (1, 1, 0)⟩, ⟨3, [98, 101, 102, 111, 114, 101, 32, 49], (1, 2, 1)⟩, ⟨1, [97], (1, 13, 12)⟩, ⟨2, [60, 42], (1, 14, 13)⟩, ⟨1, [98], (1, 16, 15)⟩, ⟨2, [45], (1, 17, 16)⟩, ⟨1, [100], (1, 18, 17)⟩, ⟨2, [61], (1, 19, 18)⟩, ⟨1, [120], (1, 20, 19)⟩, ⟨0, [], (1, 21, 20)⟩] := by kernel_rfl
theorem scanShown2 : scanS ⟨#[60, 60, 60, 60]⟩ = .ok [⟨2, [60, 60, 60], (1, 1, 0)⟩, ⟨2, [60], (1, 4, 3)⟩, ⟨0, [], (1, 5, 4)⟩] := by kernel_rfl
theorem scanShown3 : scanS ⟨#[60, 60, 60, 42]⟩ = .ok [⟨2, [60, 60, 60, 42], (1, 1, 0)⟩, ⟨0, [], (1, 5, 4)⟩] := by kernel_rfl
theorem scanShown4 : scanS ⟨#[39, 105, 116, 39, 39, 115, 39, 92, 117, 123, 101, 52, 125, 92, 120, 56, 48, 92, 45]⟩ = .ok [⟨1, [105, 116, 39, 115, 195, 164, 128, 45], (1, 1, 0)⟩, ⟨0, [], (1, 20, 19)⟩] := by kernel_rfl
theorem scanShown5 : scanS ⟨#[39, 39]⟩ = .ok [⟨1, [], (1, 1, 0)⟩, ⟨0, [], (1, 3, 2)⟩] := by kernel_rfl
theorem scanShown6 : scanS ⟨#[]⟩ = .ok [⟨0, [], (1, 1, 0)⟩] := by kernel_rfl
theorem scanShown7 : scanS ⟨#[35]⟩ = .ok [⟨0, [], (1, 2, 1)⟩] := by kernel_rfl
theorem scanShown8 : scanS ⟨#[10]⟩ = .ok [⟨0, [], (2, 1, 1)⟩] := by kernel_rfl
theorem scanRef0 : scanS ⟨#[60, 60, 32, 42]⟩ = .bad 4 1 4 := by kernel_rfl
theorem scanRef1 : scanS ⟨#[92, 117, 123, 100, 56, 48, 48, 125]⟩ = .bad 9 1 1 := by kernel_rfl
theorem scanRef2 : scanS ⟨#[92, 117, 123, 125]⟩ = .bad 9 1 1 := by kernel_rfl
theorem scanRef3 : scanS ⟨#[92, 120, 55, 102]⟩ = .bad 9 1 1 := by kernel_rfl
theorem scanRef4 : scanS ⟨#[97, 92]⟩ = .bad 9 1 2 := by kernel_rfl
theorem scanRef5 : scanS ⟨#[92, 117, 52, 49]⟩ = .bad 9 1 1 := by kernel_rfl
theorem scanRef6 : scanS ⟨#[195, 169, 39]⟩ = .bad 10 1 2 := by kernel_rfl
theorem scanRef7 : scanS ⟨#[91, 97]⟩ = .bad 25 1 1 := by kernel_rfl
theorem scanRef8 : scanS ⟨#[97, 93]⟩ = .bad 25 1 2 := by kernel_rfl
theorem scanRef9 : scanS ⟨#[42]⟩ = .bad 4 1 1 := by kernel_rfl
theorem quoShown0 : quoV ⟨#[97, 45, 98]⟩ = [97, 92, 45, 98] := by kernel_rfl
theorem quoShown1 : quoV ⟨#[32]⟩ = [92, 117, 123, 50, 48, 125] := by kernel_rfl
theorem quoShown2 : quoV ⟨#[195, 169]⟩ = [195, 169] := by kernel_rfl
theorem quoShown3 : quoV ⟨#[255]⟩ = [92, 120, 102, 102] := by kernel_rfl
theorem quoShown4 : quoV ⟨#[]⟩ = [39, 39] := by kernel_rfl
end Go.Proofs.YtbnnhbmnddaafaaGreatDoor
