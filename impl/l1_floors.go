package impl

import (
	"iter"
	"slices"
)

// PointsMax is the greatest number of points of a floor.
const PointsMax = 16

// DepthMax is the greatest depth.
const DepthMax = 40

// MileLength is the length of cable that a level mile needs.
const MileLength = 10

// PayMax is the greatest length of cable that is paid out over a mile.
const PayMax = 60

// aboardMax is the greatest length of cable on board.
const aboardMax = 1000

// FloorValid reports whether a list is a floor.
func FloorValid(floor []int) bool {
	return inRange(len(floor), 2, PointsMax) && allInRange(floor, 0, DepthMax)
}

// FloorNeeds returns the length that each mile needs, in order, and true.
func FloorNeeds(floor []int) ([]int, bool) {
	if !FloorValid(floor) {
		return nil, false
	}
	needs := make([]int, 0, len(floor)-1)
	for _, need := range floorMiles(floor) {
		needs = append(needs, need)
	}
	return needs, true
}

// FloorLength returns the length that all miles between two points need, or -1 if the list is no floor, or there are no such points with the first one at most the second one.
func FloorLength(floor []int, from int, to int) int {
	if !FloorValid(floor) || !pointsInOrder(floor, from, to) {
		return -1
	}
	length := 0
	for _, need := range floorMiles(floor[from : to+1]) {
		length += need
	}
	return length
}

// FloorPart returns the floor from one point to another one, both included, and true.
func FloorPart(floor []int, from int, to int) ([]int, bool) {
	// A single point is no floor, so both points must differ.
	if !FloorValid(floor) || !pointsInOrder(floor, from, to) || from == to {
		return nil, false
	}
	return slices.Clone(floor[from : to+1]), true
}

// FloorJoin returns the floor of two floors of which the last depth of the first one is the first depth of the second one, with the common point once, and true.
func FloorJoin(a []int, b []int) ([]int, bool) {
	if !FloorValid(a) || !FloorValid(b) || a[len(a)-1] != b[0] {
		return nil, false
	}
	joined := slices.Concat(a, b[1:])
	if !FloorValid(joined) {
		return nil, false
	}
	return joined, true
}

// FloorBack returns the floor in the opposite order, and true.
func FloorBack(floor []int) ([]int, bool) {
	if !FloorValid(floor) {
		return nil, false
	}
	back := slices.Clone(floor)
	slices.Reverse(back)
	return back, true
}

// FloorDeepest returns the first point with the greatest depth, or -1 if the list is no floor.
func FloorDeepest(floor []int) int {
	if !FloorValid(floor) {
		return -1
	}
	return slices.Index(floor, slices.Max(floor))
}

// FloorSteepest returns the first mile that needs most, or -1 if the list is no floor.
func FloorSteepest(floor []int) int {
	needs, ok := FloorNeeds(floor)
	if !ok {
		return -1
	}
	return slices.Index(needs, slices.Max(needs))
}

// PayValid reports whether a list is a floor and another one a pay-out of it.
func PayValid(floor []int, pay []int) bool {
	return FloorValid(floor) && len(pay) == len(floor)-1 && allInRange(pay, 0, PayMax)
}

// PayHangs returns all miles that hang, ascending.
func PayHangs(floor []int, pay []int) []int {
	if !PayValid(floor, pay) {
		return nil
	}
	var hanging []int
	for mile, need := range floorMiles(floor) {
		if pay[mile] < need {
			hanging = append(hanging, mile)
		}
	}
	return hanging
}

// PaySlack returns the sum of the slacks of all miles, or -1 if PayValid does not hold.
func PaySlack(floor []int, pay []int) int {
	if !PayValid(floor, pay) {
		return -1
	}
	slack := 0
	for mile, need := range floorMiles(floor) {
		slack += max(pay[mile]-need, 0)
	}
	return slack
}

// PayLevel returns the least length with which no mile hangs if each one gets it, or -1 if the list is no floor.
func PayLevel(floor []int) int {
	needs, ok := FloorNeeds(floor)
	if !ok {
		return -1
	}
	return slices.Max(needs)
}

// PayCarry returns the greatest lengths that can be paid out over the miles, in order, so that none gets more than it needs and the first ones get as much as they can, from a length of cable on board, and true.
func PayCarry(floor []int, aboard int) ([]int, bool) {
	if !FloorValid(floor) || !inRange(aboard, 0, aboardMax) {
		return nil, false
	}
	pay := make([]int, 0, len(floor)-1)
	for _, need := range floorMiles(floor) {
		paid := min(need, aboard)
		pay = append(pay, paid)
		aboard -= paid
	}
	return pay, true
}

// PayReach returns how many of the first miles a length of cable on board is enough for, or -1 if PayCarry fails.
func PayReach(floor []int, aboard int) int {
	pay, ok := PayCarry(floor, aboard)
	if !ok {
		return -1
	}
	for mile, need := range floorMiles(floor) {
		if pay[mile] < need {
			return mile
		}
	}
	return len(pay)
}

// floorMiles gives each mile of a floor with the length that it needs, in order.
func floorMiles(floor []int) iter.Seq2[int, int] {
	return func(yield func(int, int) bool) {
		for mile := range len(floor) - 1 {
			drop := floor[mile+1] - floor[mile]
			if !yield(mile, MileLength+max(drop, -drop)) {
				return
			}
		}
	}
}

// pointsInOrder reports whether a list has two points, the first one at most the second one.
func pointsInOrder(list []int, from int, to int) bool {
	return 0 <= from && from <= to && to < len(list)
}

// inRange reports whether a number is at least one number and at most another one.
func inRange(number int, least int, most int) bool {
	return least <= number && number <= most
}

// allInRange reports whether each number of a list is in a range.
func allInRange(list []int, least int, most int) bool {
	for _, number := range list {
		if !inRange(number, least, most) {
			return false
		}
	}
	return true
}
