package curtain

import (
	"errors"
	"testing"

	"curtain/read"
)

func TestPlaceOfGivingUp(t *testing.T) {
	if at := placeOf(read.GiveUp{At: 7}); at != 7 {
		t.Errorf("placeOf: %d, want 7", at)
	}
}

func TestOtherPanicsGoOn(t *testing.T) {
	for _, other := range []any{errors.New("other"), 7, "other"} {
		func() {
			defer func() {
				if caught := recover(); caught != other {
					t.Errorf("placeOf(%v): caught %v", other, caught)
				}
			}()
			placeOf(other)
		}()
	}
}
